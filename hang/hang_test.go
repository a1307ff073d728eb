package hang_test

import (
	"slices"
	"testing"

	"codemason/api"
	"codemason/hang"
	"codemason/sample"
)

// H1, H2: the errors of way.Check.
func TestInvalidGraphs(t *testing.T) {
	for _, c := range sample.BadGraphs() {
		if l, e := hang.Last(c.Next); len(l) != 0 || e != c.Want {
			t.Errorf("%s: Last(%v) = %b, %v, want an empty list, %v", c.Name, c.Next, l, e, c.Want)
		}
		if l, e := hang.On(c.Next); len(l) != 0 || e != c.Want {
			t.Errorf("%s: On(%v) = %b, %v, want an empty list, %v", c.Name, c.Next, l, e, c.Want)
		}
	}
}

// H1, H2: graphs whose results are easily seen, the document's example first.
func TestGraphs(t *testing.T) {
	for _, c := range []struct {
		name     string
		next     [][]int
		last, on []uint32
	}{
		{"example", [][]int{{1, 2}, {3}, {3}, {}}, []uint32{9, 10, 12, 8}, []uint32{6, 0, 0, 0}},
		{"one node", [][]int{nil}, []uint32{1}, []uint32{0}},
		{"no exit", [][]int{{0}}, []uint32{0}, []uint32{0}},
		{"a circle", [][]int{{1}, {2}, {0}}, []uint32{0, 0, 0}, []uint32{0, 0, 0}},
		{"a chain", [][]int{{2}, nil, {1}}, []uint32{7, 2, 6}, []uint32{0, 0, 0}},
		{"equal edges", [][]int{{1, 1, 1}, nil}, []uint32{3, 2}, []uint32{0, 0}},
		{"a node that repeats itself", [][]int{{0, 1}, nil}, []uint32{3, 2}, []uint32{1, 0}},
		{"a node that is repeated by another one", [][]int{{1}, {0, 2}, nil}, []uint32{7, 6, 4}, []uint32{0, 3, 0}},
		{"a node that repeats another one", [][]int{{1, 2}, {0}, nil}, []uint32{5, 7, 4}, []uint32{3, 0, 0}},
		{"two exits", [][]int{{1, 2}, nil, nil}, []uint32{1, 2, 4}, []uint32{6, 0, 0}},
		{"an exit on one side", [][]int{{1, 2}, nil, {3}, nil}, []uint32{1, 2, 12, 8}, []uint32{14, 0, 0, 0}},
		{"a step that may be left out", [][]int{{1, 2}, {2}, nil}, []uint32{5, 6, 4}, []uint32{2, 0, 0}},
		{"a choice inside a choice", [][]int{{1, 4}, {2, 3}, {4}, {4}, nil}, []uint32{17, 18, 20, 24, 16}, []uint32{2, 12, 0, 0, 0}},
		{"one side never ends", [][]int{{1, 2}, {1}, nil}, []uint32{5, 0, 4}, []uint32{0, 0, 0}},
		{"one side of three never ends", [][]int{{1, 2, 3}, {1}, {4}, {4}, nil}, []uint32{17, 0, 20, 24, 16}, []uint32{12, 0, 0, 0, 0}},
		{"only the entry never ends", [][]int{{0}, {2}, nil}, []uint32{0, 6, 4}, []uint32{0, 0, 0}},
		{"what is not reached", [][]int{nil, {2, 3}, {0}, {0}}, []uint32{1, 3, 5, 9}, []uint32{0, 12, 0, 0}},
		{"what leads only to the entry", [][]int{{3}, {0, 2}, {0}, nil}, []uint32{9, 11, 13, 8}, []uint32{0, 4, 0, 0}},
		{"a loop with two exits", [][]int{{1}, {2, 3}, {0, 4}, nil, nil}, []uint32{3, 2, 4, 8, 16}, []uint32{0, 12, 19, 0, 0}},
		{"most nodes", make([][]int, api.MaxNodes), []uint32{1, 2, 4, 8, 16, 32, 64, 128}, make([]uint32, 8)},
		{"a chain of most nodes", [][]int{{1}, {2}, {3}, {4}, {5}, {6}, {7}, nil},
			[]uint32{255, 254, 252, 248, 240, 224, 192, 128}, make([]uint32, 8)},
		{"a backward chain of most nodes", [][]int{nil, {0}, {1}, {2}, {3}, {4}, {5}, {6}},
			[]uint32{1, 3, 7, 15, 31, 63, 127, 255}, make([]uint32, 8)},
		{"most edges", append(slices.Repeat([][]int{{7, 0, 6}}, api.MaxNodes-1), nil),
			[]uint32{129, 130, 132, 136, 144, 160, 192, 128}, []uint32{65, 65, 65, 65, 65, 65, 65, 0}},
	} {
		checkGraph(t, c.name, c.next, c.last, c.on)
	}
}

// checkGraph compares both functions with what is expected for a valid graph.
func checkGraph(t *testing.T, name string, next [][]int, last, on []uint32) {
	t.Helper()
	if l, e := hang.Last(next); !slices.Equal(l, last) || e != api.OK {
		t.Fatalf("%s: Last(%v) = %b, %v, want %b", name, next, l, e, last)
	}
	if l, e := hang.On(next); !slices.Equal(l, on) || e != api.OK {
		t.Fatalf("%s: On(%v) = %b, %v, want %b", name, next, l, e, on)
	}
}

// H1, H2: all graphs of few nodes.
func TestShortGraphs(t *testing.T) {
	for next := range sample.ShortGraphs(3) {
		checkDefinitions(t, next)
	}
}

// H1, H2: larger graphs that follow a fixed rule, with few edges or many, and with any number of exits or just one.
func TestLargeGraphs(t *testing.T) {
	pick := sample.Numbers()
	for range 500 {
		for nodes := 4; nodes <= api.MaxNodes; nodes++ {
			for most := 1; most <= api.MaxNext; most++ {
				next := sample.Graph(pick, nodes, most)
				checkDefinitions(t, next)
				keepOneExit(pick, next)
				checkDefinitions(t, next)
			}
		}
	}
}

// keepOneExit makes one node an exit, and gives an edge to each other node that is one.
func keepOneExit(pick func(int) int, next [][]int) {
	exit := pick(len(next))
	for v, targets := range next {
		if len(targets) == 0 {
			next[v] = []int{pick(len(next))}
		}
	}
	next[exit] = nil
}

// checkDefinitions compares both functions with the document's definitions for a valid graph.
func checkDefinitions(t *testing.T, next [][]int) {
	t.Helper()
	last := postdominators(next)
	checkGraph(t, "definition", next, last, dependents(next, last))
}

// postdominators returns, for each node, what all paths from it to an exit contain. Paths without a repeated node suffice: the others contain the nodes of such a one.
func postdominators(next [][]int) []uint32 {
	last := make([]uint32, len(next))
	for a := range next {
		var walk func(v int, path uint32)
		walk = func(v int, path uint32) {
			if path>>v&1 != 0 {
				return
			}
			path |= 1 << v
			if len(next[v]) == 0 {
				if last[a] == 0 {
					last[a] = path
				}
				last[a] &= path
			}
			for _, to := range next[v] {
				walk(to, path)
			}
		}
		walk(a, 0)
	}
	return last
}

// dependents finds the control dependent nodes by the document's definition.
func dependents(next [][]int, last []uint32) []uint32 {
	postdominates := func(b, a int) bool { return last[a]>>b&1 != 0 }
	on := make([]uint32, len(next))
	for a := range next {
		for b := range next {
			some := slices.ContainsFunc(next[a], func(to int) bool { return postdominates(b, to) })
			if some && (!postdominates(b, a) || a == b) {
				on[a] |= 1 << b
			}
		}
	}
	return on
}

// P3: arguments stay as they are, also beyond their length, and results share no memory.
func TestMemory(t *testing.T) {
	next, changed := sample.WatchedGraph()
	// The list of the last node is empty now, but has an edge beyond its length.
	next[2] = next[2][:0]
	for range 2 {
		checkGraph(t, "memory", next, []uint32{5, 6, 4}, []uint32{2, 1, 0})
		last, _ := hang.Last(next)
		on, _ := hang.On(next)
		clear(last[:cap(last)])
		clear(on[:cap(on)])
	}
	next[2] = next[2][:1]
	if changed() {
		t.Errorf("the argument changed: %v", next)
	}
}
