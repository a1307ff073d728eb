package loop_test

import (
	"math/bits"
	"slices"
	"testing"

	"codemason/api"
	"codemason/loop"
	"codemason/sample"
	"codemason/way"
)

// G1, G2: the errors of way.Check.
func TestInvalidGraphs(t *testing.T) {
	for _, c := range sample.BadGraphs() {
		if l, e := loop.Loops(c.Next); len(l) != 0 || e != c.Want {
			t.Errorf("%s: Loops(%v) = %b, %v, want an empty list, %v", c.Name, c.Next, l, e, c.Want)
		}
		if d, e := loop.Deep(c.Next); len(d) != 0 || e != c.Want {
			t.Errorf("%s: Deep(%v) = %v, %v, want an empty list, %v", c.Name, c.Next, d, e, c.Want)
		}
		if is, e := loop.Tame(c.Next); is || e != c.Want {
			t.Errorf("%s: Tame(%v) = %v, %v, want false, %v", c.Name, c.Next, is, e, c.Want)
		}
		if n, e := loop.Fold(c.Next); n != 0 || e != c.Want {
			t.Errorf("%s: Fold(%v) = %d, %v, want 0, %v", c.Name, c.Next, n, e, c.Want)
		}
	}
}

// G1, G2: graphs whose results are easily seen, the document's example first.
func TestGraphs(t *testing.T) {
	for _, c := range []struct {
		name  string
		next  [][]int
		loops []uint32
		deep  []int
		tame  bool
		fold  int
	}{
		{"example", [][]int{{1, 2}, {2}, {1}}, []uint32{0, 0, 0}, []int{0, 0, 0}, false, 3},
		{"one node", [][]int{nil}, []uint32{0}, []int{0}, true, 1},
		{"an edge to itself", [][]int{{0}}, []uint32{1}, []int{1}, true, 1},
		{"equal edges", [][]int{{1, 1}, {1, 1, 0}}, []uint32{3, 2}, []int{1, 2}, true, 1},
		{"a chain", [][]int{{2}, nil, {1}}, []uint32{0, 0, 0}, []int{0, 0, 0}, true, 1},
		{"a diamond", [][]int{{1, 2}, {3}, {3}, nil}, []uint32{0, 0, 0, 0}, []int{0, 0, 0, 0}, true, 1},
		{"one loop in another", [][]int{{1}, {2}, {3}, {2, 1, 4}, nil}, []uint32{0, 14, 12, 0, 0}, []int{0, 1, 2, 2, 0}, true, 1},
		{"one loop behind another", [][]int{{1}, {0, 2}, {3}, {2}}, []uint32{3, 0, 12, 0}, []int{1, 1, 1, 1}, true, 1},
		{"loops with the same header", [][]int{{1}, {2, 3, 4}, {1}, {1}, nil}, []uint32{0, 14, 0, 0, 0}, []int{0, 1, 1, 1, 0}, true, 1},
		{"a diamond in a loop", [][]int{{1, 2}, {3, 5}, {3}, {4}, {0}, nil}, []uint32{31, 0, 0, 0, 0, 0}, []int{1, 1, 1, 1, 1, 0}, true, 1},
		{"what is not reached leads to a loop", [][]int{{1}, {0}, {1, 0}, {2, 3}}, []uint32{3, 0, 0, 0}, []int{1, 1, 0, 0}, true, 1},
		{"two entries, not reached", [][]int{{}, {2}, {1}, {1, 2}}, []uint32{0, 0, 0, 0}, []int{0, 0, 0, 0}, true, 1},
		{"two entries in a loop", [][]int{{1, 2}, {2, 0}, {1}}, []uint32{7, 0, 0}, []int{1, 1, 1}, false, 3},
		{"two entries, one of them a loop", [][]int{{1, 2}, {2}, {1, 2}}, []uint32{0, 0, 4}, []int{0, 0, 1}, false, 3},
		{"two entries between others", [][]int{{1}, {2, 3}, {3}, {2, 4}, nil}, []uint32{0, 0, 0, 0, 0}, []int{0, 0, 0, 0, 0}, false, 3},
		{"two entries, the second one behind another node", [][]int{{1, 2}, {3}, {1}, {2}}, []uint32{0, 0, 0, 0}, []int{0, 0, 0, 0}, false, 3},
		{"three entries", [][]int{{1, 2, 3}, {2, 3}, {1, 3}, {1, 2}}, []uint32{0, 0, 0, 0}, []int{0, 0, 0, 0}, false, 4},
		{"nothing to merge", [][]int{{1, 7}, {2}, {1, 3}, {2, 4}, {3, 5}, {4, 6}, {5, 7}, {6}}, make([]uint32, 8), make([]int, 8), false, 8},
		{"most nodes", make([][]int, api.MaxNodes), make([]uint32, 8), make([]int, 8), true, 1},
		{"a circle of most nodes", [][]int{{7}, {0}, {1}, {2}, {3}, {4}, {5}, {6}}, []uint32{255, 0, 0, 0, 0, 0, 0, 0},
			[]int{1, 1, 1, 1, 1, 1, 1, 1}, true, 1},
		{"most loops", [][]int{{1, 0}, {2, 1, 0}, {3, 2, 1}, {4, 3, 2}, {5, 4, 3}, {6, 5, 4}, {7, 6, 5}, {7, 6}},
			[]uint32{255, 254, 252, 248, 240, 224, 192, 128}, []int{1, 2, 3, 4, 5, 6, 7, 8}, true, 1},
		{"most edges", slices.Repeat([][]int{{7, 0, 6}}, api.MaxNodes), []uint32{193, 0, 0, 0, 0, 0, 64, 128},
			[]int{1, 0, 0, 0, 0, 0, 2, 2}, false, 3},
	} {
		checkGraph(t, c.name, c.next, c.loops, c.deep, c.tame, c.fold)
	}
}

// checkGraph compares all functions with what is expected for a valid graph.
func checkGraph(t *testing.T, name string, next [][]int, loops []uint32, deep []int, tame bool, fold int) {
	t.Helper()
	if l, e := loop.Loops(next); !slices.Equal(l, loops) || e != api.OK {
		t.Fatalf("%s: Loops(%v) = %b, %v, want %b", name, next, l, e, loops)
	}
	if d, e := loop.Deep(next); !slices.Equal(d, deep) || e != api.OK {
		t.Fatalf("%s: Deep(%v) = %v, %v, want %v", name, next, d, e, deep)
	}
	if is, e := loop.Tame(next); is != tame || e != api.OK {
		t.Fatalf("%s: Tame(%v) = %v, %v, want %v", name, next, is, e, tame)
	}
	if n, e := loop.Fold(next); n != fold || e != api.OK {
		t.Fatalf("%s: Fold(%v) = %d, %v, want %d", name, next, n, e, fold)
	}
}

// G1, G2: all graphs of few nodes, which are reduced in all orders.
func TestShortGraphs(t *testing.T) {
	known := map[reduced]uint32{}
	for next := range sample.ShortGraphs(3) {
		counts := remaining(start(next), known)
		if bits.OnesCount32(counts) != 1 {
			t.Fatalf("the number of nodes that remain of %v depends on the order: %b", next, counts)
		}
		checkDefinitions(t, next, bits.TrailingZeros32(counts))
	}
}

// G1, G2: larger graphs that follow a fixed rule, with few edges or many, and are reduced in some order.
func TestLargeGraphs(t *testing.T) {
	pick := sample.Numbers()
	for range 500 {
		for nodes := 4; nodes <= api.MaxNodes; nodes++ {
			for most := 1; most <= api.MaxNext; most++ {
				next := sample.Graph(pick, nodes, most)
				graph := start(next)
				for choices := graph.steps(); len(choices) > 0; choices = graph.steps() {
					graph = choices[pick(len(choices))]
				}
				checkDefinitions(t, next, bits.OnesCount32(graph.left))
			}
		}
	}
}

// checkDefinitions compares all functions with the document's definitions for a valid graph, of which fold nodes remain.
func checkDefinitions(t *testing.T, next [][]int, fold int) {
	t.Helper()
	back, e := way.Back(next)
	if e != api.OK {
		t.Fatalf("Back(%v): %v", next, e)
	}
	loops, deep, tame := make([]uint32, len(next)), make([]int, len(next)), true
	for _, edge := range back {
		a, h := edge[0], edge[1]
		if a != h && leads(next, 0, a, h) {
			tame = false
			continue
		}
		loops[h] |= 1 << h
		for v := range next {
			if leads(next, 0, v, -1) && leads(next, v, a, h) {
				loops[h] |= 1 << v
			}
		}
	}
	for v := range next {
		for _, l := range loops {
			deep[v] += int(l >> v & 1)
		}
	}
	checkGraph(t, "definition", next, loops, deep, tame, fold)
}

// leads tells whether there is a path of zero or more edges from one node to another one that does not contain a third one.
func leads(next [][]int, from, to, without int) bool {
	var seen uint32
	var walk func(v int)
	walk = func(v int) {
		if v == without || seen>>v&1 != 0 {
			return
		}
		seen |= 1 << v
		for _, w := range next[v] {
			walk(w)
		}
	}
	walk(from)
	return seen>>to&1 != 0
}

// reduced is what is left of a graph: its nodes, and for each of them the set of those to which an edge leads from it.
type reduced struct {
	left uint32
	to   [api.MaxNodes]uint32
}

// start is the reached part of a graph.
func start(next [][]int) reduced {
	var graph reduced
	for v, targets := range next {
		if !leads(next, 0, v, -1) {
			continue
		}
		graph.left |= 1 << v
		for _, to := range targets {
			graph.to[v] |= 1 << to
		}
	}
	return graph
}

// steps lists what one transformation, T1 or T2, may make of a graph.
func (g reduced) steps() []reduced {
	var all []reduced
	for v, to := range g.to {
		if to>>v&1 != 0 {
			without := g
			without.to[v] &^= 1 << v
			all = append(all, without)
			continue
		}
		var before []int
		for w, to := range g.to {
			if to>>v&1 != 0 {
				before = append(before, w)
			}
		}
		if v != 0 && len(before) == 1 {
			merged := g
			merged.left &^= 1 << v
			merged.to[before[0]] = merged.to[before[0]]&^(1<<v) | to
			merged.to[v] = 0
			all = append(all, merged)
		}
	}
	return all
}

// remaining returns the set of the numbers of nodes that may remain of a graph, by the order of the transformations.
func remaining(graph reduced, known map[reduced]uint32) uint32 {
	if counts, ok := known[graph]; ok {
		return counts
	}
	var counts uint32
	choices := graph.steps()
	for _, choice := range choices {
		counts |= remaining(choice, known)
	}
	if len(choices) == 0 {
		counts = 1 << bits.OnesCount32(graph.left)
	}
	known[graph] = counts
	return counts
}

// P3: arguments stay as they are, also beyond their length, and results share no memory.
func TestMemory(t *testing.T) {
	next, changed := sample.WatchedGraph()
	for range 2 {
		checkGraph(t, "memory", next, []uint32{3, 0, 4}, []int{1, 1, 1}, true, 1)
		loops, _ := loop.Loops(next)
		deep, _ := loop.Deep(next)
		clear(loops[:cap(loops)])
		clear(deep[:cap(deep)])
	}
	if changed() {
		t.Errorf("the argument changed: %v", next)
	}
}
