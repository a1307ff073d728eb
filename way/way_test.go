package way_test

import (
	"slices"
	"testing"

	"codemason/api"
	"codemason/sample"
	"codemason/way"
)

// E1, E2: invalid graphs.
func TestInvalidGraphs(t *testing.T) {
	for _, c := range sample.BadGraphs() {
		if e := way.Check(c.Next); e != c.Want {
			t.Errorf("%s: Check(%v) = %v, want %v", c.Name, c.Next, e, c.Want)
		}
		if s, e := way.Reach(c.Next); s != 0 || e != c.Want {
			t.Errorf("%s: Reach(%v) = %b, %v, want 0, %v", c.Name, c.Next, s, e, c.Want)
		}
		if o, e := way.Order(c.Next); len(o) != 0 || e != c.Want {
			t.Errorf("%s: Order(%v) = %v, %v, want an empty list, %v", c.Name, c.Next, o, e, c.Want)
		}
		if b, e := way.Back(c.Next); len(b) != 0 || e != c.Want {
			t.Errorf("%s: Back(%v) = %v, %v, want an empty list, %v", c.Name, c.Next, b, e, c.Want)
		}
		if p, e := way.Parts(c.Next); len(p) != 0 || e != c.Want {
			t.Errorf("%s: Parts(%v) = %v, %v, want an empty list, %v", c.Name, c.Next, p, e, c.Want)
		}
	}
}

// E1, E2: graphs whose results are easily seen, the document's example first.
func TestGraphs(t *testing.T) {
	for _, c := range []struct {
		name  string
		next  [][]int
		reach uint32
		order []int
		back  [][2]int
		parts []uint32
	}{
		{"example", [][]int{{1}, {0, 2}, {}}, 7, []int{0, 1, 2}, [][2]int{{1, 0}}, []uint32{3, 3, 4}},
		{"one node", [][]int{nil}, 1, []int{0}, nil, []uint32{1}},
		{"an edge to itself", [][]int{{0}}, 1, []int{0}, [][2]int{{0, 0}}, []uint32{1}},
		{"equal edges", [][]int{{0, 0, 0}}, 1, []int{0}, [][2]int{{0, 0}}, []uint32{1}},
		{"a diamond", [][]int{{1, 2}, {3}, {3}, nil}, 15, []int{0, 2, 1, 3}, nil, []uint32{1, 2, 4, 8}},
		{"the other way first", [][]int{{2, 1}, {3}, {3}, nil}, 15, []int{0, 1, 2, 3}, nil, []uint32{1, 2, 4, 8}},
		{"depth comes first", [][]int{{1, 2}, {3}, nil, {2}}, 15, []int{0, 1, 3, 2}, nil, []uint32{1, 2, 4, 8}},
		{"an edge to what is finished", [][]int{{1, 2}, nil, {1}}, 7, []int{0, 2, 1}, nil, []uint32{1, 2, 4}},
		{"two entries, 1 first", [][]int{{1, 2}, {2}, {1}}, 7, []int{0, 1, 2}, [][2]int{{2, 1}}, []uint32{1, 6, 6}},
		{"two entries, 2 first", [][]int{{2, 1}, {2}, {1}}, 7, []int{0, 2, 1}, [][2]int{{1, 2}}, []uint32{1, 6, 6}},
		{"not reached", [][]int{{}, {0, 2}, {1, 2}}, 1, []int{0}, nil, []uint32{1, 6, 6}},
		{"not all reached", [][]int{{3}, {1, 0}, {1}, {0}}, 9, []int{0, 3}, [][2]int{{3, 0}}, []uint32{9, 2, 4, 9}},
		{"pairs are sorted", [][]int{{1}, {2}, {3, 2, 0}, {3, 1, 0}}, 15, []int{0, 1, 2, 3},
			[][2]int{{2, 0}, {2, 2}, {3, 0}, {3, 1}, {3, 3}}, []uint32{15, 15, 15, 15}},
		{"two circles", [][]int{{1}, {0, 3}, {3}, {2}}, 15, []int{0, 1, 3, 2}, [][2]int{{1, 0}, {2, 3}}, []uint32{3, 3, 12, 12}},
		{"most nodes", make([][]int, api.MaxNodes), 1, []int{0}, nil, []uint32{1, 2, 4, 8, 16, 32, 64, 128}},
		{"a circle of most nodes", [][]int{{7}, {0}, {1}, {2}, {3}, {4}, {5}, {6}}, 255, []int{0, 7, 6, 5, 4, 3, 2, 1},
			[][2]int{{1, 0}}, slices.Repeat([]uint32{255}, api.MaxNodes)},
		{"most edges", slices.Repeat([][]int{{7, 0, 6}}, api.MaxNodes), 193, []int{0, 7, 6},
			[][2]int{{0, 0}, {6, 0}, {6, 6}, {6, 7}, {7, 0}, {7, 7}}, []uint32{193, 2, 4, 8, 16, 32, 193, 193}},
	} {
		checkGraph(t, c.name, c.next, c.reach, c.order, c.back, c.parts)
	}
}

// checkGraph compares all functions with what is expected for a valid graph.
func checkGraph(t *testing.T, name string, next [][]int, reach uint32, order []int, back [][2]int, parts []uint32) {
	t.Helper()
	if e := way.Check(next); e != api.OK {
		t.Fatalf("%s: Check(%v) = %v", name, next, e)
	}
	if s, e := way.Reach(next); s != reach || e != api.OK {
		t.Fatalf("%s: Reach(%v) = %b, %v, want %b", name, next, s, e, reach)
	}
	if o, e := way.Order(next); !slices.Equal(o, order) || e != api.OK {
		t.Fatalf("%s: Order(%v) = %v, %v, want %v", name, next, o, e, order)
	}
	if b, e := way.Back(next); !slices.Equal(b, back) || e != api.OK {
		t.Fatalf("%s: Back(%v) = %v, %v, want %v", name, next, b, e, back)
	}
	if p, e := way.Parts(next); !slices.Equal(p, parts) || e != api.OK {
		t.Fatalf("%s: Parts(%v) = %b, %v, want %b", name, next, p, e, parts)
	}
}

// E1, E2: all graphs of few nodes.
func TestShortGraphs(t *testing.T) {
	for next := range sample.ShortGraphs(3) {
		checkDefinitions(t, next)
	}
}

// E1, E2: larger graphs that follow a fixed rule, with few edges or many.
func TestLargeGraphs(t *testing.T) {
	next := sample.Numbers()
	for range 2000 {
		for nodes := 4; nodes <= api.MaxNodes; nodes++ {
			for most := 1; most <= api.MaxNext; most++ {
				checkDefinitions(t, sample.Graph(next, nodes, most))
			}
		}
	}
}

// checkDefinitions compares all functions with the document's definitions for a valid graph.
func checkDefinitions(t *testing.T, next [][]int) {
	t.Helper()
	leads, finish := paths(next), search(next)
	var reach uint32
	for v, is := range leads[0] {
		if is {
			reach |= 1 << v
		}
	}
	order := slices.Clone(finish)
	slices.Reverse(order)
	parts := make([]uint32, len(next))
	for v := range next {
		for w := range next {
			if leads[v][w] && leads[w][v] {
				parts[v] |= 1 << w
			}
		}
	}
	checkGraph(t, "definition", next, reach, order, retreating(next, finish), parts)
}

// paths tells for each two nodes whether there is a path of zero or more edges from the first one to the second one.
func paths(next [][]int) [][]bool {
	is := make([][]bool, len(next))
	for v, targets := range next {
		is[v] = make([]bool, len(next))
		is[v][v] = true
		for _, to := range targets {
			is[v][to] = true
		}
	}
	for via := range next {
		for a := range next {
			for b := range next {
				is[a][b] = is[a][b] || is[a][via] && is[via][b]
			}
		}
	}
	return is
}

// search returns the reached nodes in the order in which the search finishes them, step by step as the document says.
func search(next [][]int) []int {
	visited := map[int]bool{0: true}
	path := []int{0}
	var finish []int
	for len(path) > 0 {
		v := path[len(path)-1]
		i := slices.IndexFunc(next[v], func(to int) bool { return !visited[to] })
		if i < 0 {
			finish = append(finish, v)
			path = path[:len(path)-1]
		} else {
			visited[next[v][i]] = true
			path = append(path, next[v][i])
		}
	}
	return finish
}

// retreating lists the retreating edges by the order in which nodes are finished.
func retreating(next [][]int, finish []int) [][2]int {
	var all [][2]int
	for i, a := range finish {
		for _, b := range finish[i:] {
			if slices.Contains(next[a], b) {
				all = append(all, [2]int{a, b})
			}
		}
	}
	slices.SortFunc(all, func(x, y [2]int) int { return slices.Compare(x[:], y[:]) })
	return all
}

// Every number may be asked for, also one that no node has.
func TestHas(t *testing.T) {
	const set = 1<<0 | 1<<3 | 1<<31
	for v := range 64 {
		if is, want := way.Has(set, v), v == 0 || v == 3 || v == 31; is != want {
			t.Errorf("Has(%b, %d) = %v, want %v", uint32(set), v, is, want)
		}
	}
	for _, v := range sample.Outside(32) {
		if way.Has(1<<32-1, v) {
			t.Errorf("the set of all has %d", v)
		}
	}
}

// The sets of some nodes: none, one, several and those that have no set.
func TestUnion(t *testing.T) {
	sets := []uint32{1 << 1, 0, 1<<31 | 1, 1 << 4}
	for _, c := range []struct{ nodes, want uint32 }{
		{0, 0}, {1, 2}, {2, 0}, {4, 1<<31 | 1}, {9, 1<<4 | 2}, {15, 1<<31 | 19}, {1<<32 - 1, 1<<31 | 19}, {1 << 4, 0},
	} {
		if all := way.Union(sets, c.nodes); all != c.want {
			t.Errorf("Union(%b, %b) = %b, want %b", sets, c.nodes, all, c.want)
		}
	}
	if all := way.Union(nil, 1); all != 0 {
		t.Errorf("Union(nil, 1) = %b, want 0", all)
	}
}

// P3: arguments stay as they are, also beyond their length, and results share no memory.
func TestMemory(t *testing.T) {
	next, changed := sample.WatchedGraph()
	for range 2 {
		checkGraph(t, "memory", next, 7, []int{0, 1, 2}, [][2]int{{1, 0}, {2, 2}}, []uint32{3, 3, 4})
		order, _ := way.Order(next)
		back, _ := way.Back(next)
		parts, _ := way.Parts(next)
		clear(order[:cap(order)])
		clear(back[:cap(back)])
		clear(parts[:cap(parts)])
	}
	if changed() {
		t.Errorf("the argument changed: %v", next)
	}
}
