package rule_test

import (
	"slices"
	"testing"

	"codemason/api"
	"codemason/rule"
	"codemason/sample"
)

// F1, F2: the errors of way.Check in all functions, and in Meet before that of s.
func TestInvalidGraphs(t *testing.T) {
	for _, c := range sample.BadGraphs() {
		if l, e := rule.Table(c.Next); len(l) != 0 || e != c.Want {
			t.Errorf("%s: Table(%v) = %b, %v, want an empty list, %v", c.Name, c.Next, l, e, c.Want)
		}
		if l, e := rule.Tree(c.Next); len(l) != 0 || e != c.Want {
			t.Errorf("%s: Tree(%v) = %v, %v, want an empty list, %v", c.Name, c.Next, l, e, c.Want)
		}
		if l, e := rule.Edge(c.Next); len(l) != 0 || e != c.Want {
			t.Errorf("%s: Edge(%v) = %b, %v, want an empty list, %v", c.Name, c.Next, l, e, c.Want)
		}
		for _, s := range []uint32{0, 1, 1 << len(c.Next), 1 << 31, 1<<32 - 1} {
			if m, e := rule.Meet(c.Next, s); m != 0 || e != c.Want {
				t.Errorf("%s: Meet(%v, %b) = %b, %v, want 0, %v", c.Name, c.Next, s, m, e, c.Want)
			}
		}
	}
}

// F2: sets with elements that are not nodes, alone or with all nodes; nodes that are not reached are allowed.
func TestMeetRejects(t *testing.T) {
	for nodes := 1; nodes <= api.MaxNodes; nodes++ {
		all := uint32(1)<<nodes - 1
		circle := make([][]int, nodes)
		for v := range circle {
			circle[v] = []int{(v + 1) % nodes}
		}
		for _, next := range [][][]int{make([][]int, nodes), circle} {
			for bit := nodes; bit < 32; bit++ {
				for _, s := range []uint32{1 << bit, 1<<bit | all, 1<<bit | 1} {
					if m, e := rule.Meet(next, s); m != 0 || e != api.ErrRange {
						t.Errorf("Meet(%v, %b) = %b, %v, want 0, ErrRange", next, s, m, e)
					}
				}
			}
			if m, e := rule.Meet(next, ^uint32(0)); m != 0 || e != api.ErrRange {
				t.Errorf("Meet(%v, all bits) = %b, %v, want 0, ErrRange", next, m, e)
			}
		}
		if m, e := rule.Meet(make([][]int, nodes), all); m != 0 || e != api.OK {
			t.Errorf("Meet of all of %d nodes without edges: %b, %v, want 0, OK", nodes, m, e)
		}
		if m, e := rule.Meet(circle, all); m != 1 || e != api.OK {
			t.Errorf("Meet of all nodes of a circle of %d: %b, %v, want 1, OK", nodes, m, e)
		}
	}
}

// F1, F2: graphs whose results are easily seen, the document's example first.
func TestGraphs(t *testing.T) {
	for _, c := range []struct {
		name  string
		next  [][]int
		table []uint32
		tree  []int
		edge  []uint32
	}{
		{"example", [][]int{{1, 2}, {3}, {3}, {}}, []uint32{1, 3, 5, 9}, []int{-1, 0, 0, 0}, []uint32{0, 8, 8, 0}},
		{"one node", [][]int{nil}, []uint32{1}, []int{-1}, []uint32{0}},
		{"an edge to itself", [][]int{{0}}, []uint32{1}, []int{-1}, []uint32{1}},
		{"equal edges", [][]int{{1, 1, 1}, {1, 1}}, []uint32{1, 3}, []int{-1, 0}, []uint32{0, 2}},
		{"a chain", [][]int{{2}, nil, {1}}, []uint32{1, 7, 5}, []int{-1, 2, 0}, []uint32{0, 0, 0}},
		{"back to the entry", [][]int{{1}, {2}, {0}}, []uint32{1, 3, 7}, []int{-1, 0, 1}, []uint32{1, 1, 1}},
		{"a loop inside", [][]int{{1}, {2}, {1, 3}, nil}, []uint32{1, 3, 7, 15}, []int{-1, 0, 1, 2}, []uint32{0, 2, 2, 0}},
		{"two entries", [][]int{{1, 2}, {2}, {1}}, []uint32{1, 3, 5}, []int{-1, 0, 0}, []uint32{0, 4, 2}},
		{"around a diamond", [][]int{{1, 4}, {2, 3}, {4}, {4}, nil}, []uint32{1, 3, 7, 11, 17}, []int{-1, 0, 1, 1, 0},
			[]uint32{0, 16, 16, 16, 0}},
		{"a diamond below a node", [][]int{{1}, {2, 3}, {4}, {4}, nil}, []uint32{1, 3, 7, 11, 19}, []int{-1, 0, 1, 1, 1},
			[]uint32{0, 0, 16, 16, 0}},
		{"edges from what is not reached", [][]int{{1}, nil, {1, 3}, {2, 0}}, []uint32{1, 3, 0, 0}, []int{-1, 0, -1, -1},
			[]uint32{0, 0, 0, 0}},
		{"most nodes", make([][]int, api.MaxNodes), []uint32{1, 0, 0, 0, 0, 0, 0, 0},
			[]int{-1, -1, -1, -1, -1, -1, -1, -1}, make([]uint32, api.MaxNodes)},
		{"a circle of most nodes", [][]int{{7}, {0}, {1}, {2}, {3}, {4}, {5}, {6}},
			[]uint32{1, 255, 253, 249, 241, 225, 193, 129}, []int{-1, 2, 3, 4, 5, 6, 7, 0}, slices.Repeat([]uint32{1}, api.MaxNodes)},
		{"most edges", slices.Repeat([][]int{{7, 0, 6}}, api.MaxNodes), []uint32{1, 0, 0, 0, 0, 0, 65, 129},
			[]int{-1, -1, -1, -1, -1, -1, 0, 0}, []uint32{1, 0, 0, 0, 0, 0, 193, 193}},
	} {
		checkGraph(t, c.name, c.next, c.table, c.tree, c.edge)
	}
}

// checkGraph compares all functions of graphs alone with what is expected for a valid graph.
func checkGraph(t *testing.T, name string, next [][]int, table []uint32, tree []int, edge []uint32) {
	t.Helper()
	if l, e := rule.Table(next); !slices.Equal(l, table) || e != api.OK {
		t.Fatalf("%s: Table(%v) = %b, %v, want %b", name, next, l, e, table)
	}
	if l, e := rule.Tree(next); !slices.Equal(l, tree) || e != api.OK {
		t.Fatalf("%s: Tree(%v) = %v, %v, want %v", name, next, l, e, tree)
	}
	if l, e := rule.Edge(next); !slices.Equal(l, edge) || e != api.OK {
		t.Fatalf("%s: Edge(%v) = %b, %v, want %b", name, next, l, e, edge)
	}
}

// F2: iterated frontiers that are easily seen.
func TestMeet(t *testing.T) {
	diamond := [][]int{{1, 2}, {3}, {3}, {}}
	ladder := [][]int{{1, 2}, {3}, {3, 4}, {5}, {5, 6}, {7}, {7}, nil}
	for _, c := range []struct {
		name    string
		next    [][]int
		s, want uint32
	}{
		{"nothing", diamond, 0, 0},
		{"the entry", diamond, 1, 0},
		{"one side", diamond, 2, 8},
		{"both sides", diamond, 6, 8},
		{"the end", diamond, 8, 0},
		{"all nodes", diamond, 15, 8},
		{"a node of its own frontier", [][]int{{0}}, 1, 1},
		{"the frontier of a frontier", ladder, 2, 8 | 32 | 128},
		{"from within", ladder, 16, 32 | 128},
		{"from the last step", ladder, 64, 128},
		{"around two entries", [][]int{{1, 2}, {2}, {1}}, 2, 6},
		{"not reached", [][]int{{1}, nil, {1, 2}, {1}}, 12, 0},
		{"not reached beside reached", [][]int{{1, 2}, {2}, nil, {1, 3}}, 10, 4},
	} {
		if m, e := rule.Meet(c.next, c.s); m != c.want || e != api.OK {
			t.Errorf("%s: Meet(%v, %b) = %b, %v, want %b", c.name, c.next, c.s, m, e, c.want)
		}
	}
}

// F1, F2: all graphs of few nodes.
func TestShortGraphs(t *testing.T) {
	for next := range sample.ShortGraphs(3) {
		edge := checkDefinitions(t, next)
		for s := range uint32(1) << len(next) {
			checkMeet(t, next, edge, s)
		}
	}
}

// F1, F2: larger graphs that follow a fixed rule, with few edges or many.
func TestLargeGraphs(t *testing.T) {
	pick := sample.Numbers()
	for range 500 {
		for nodes := 4; nodes <= api.MaxNodes; nodes++ {
			for most := 1; most <= api.MaxNext; most++ {
				next := sample.Graph(pick, nodes, most)
				edge := checkDefinitions(t, next)
				checkMeet(t, next, edge, 1<<pick(nodes))
				checkMeet(t, next, edge, uint32(pick(1<<nodes)))
			}
		}
	}
}

// checkDefinitions compares the functions of graphs alone with the document's definitions for a valid graph, and returns the dominance frontiers.
func checkDefinitions(t *testing.T, next [][]int) []uint32 {
	t.Helper()
	table := dominators(next)
	edge := frontiers(next, table)
	checkGraph(t, "definition", next, table, immediate(table), edge)
	return edge
}

// checkMeet compares Meet with the smallest set that the document's definition allows.
func checkMeet(t *testing.T, next [][]int, edge []uint32, s uint32) {
	t.Helper()
	want := smallest(edge, s)
	if m, e := rule.Meet(next, s); m != want || e != api.OK {
		t.Fatalf("Meet(%v, %b) = %b, %v, want %b", next, s, m, e, want)
	}
}

// dominators returns, for each node, what all paths to it from node 0 contain. Paths without a repeated node suffice: the others contain the nodes of such a one.
func dominators(next [][]int) []uint32 {
	table := make([]uint32, len(next))
	var walk func(v int, path uint32)
	walk = func(v int, path uint32) {
		if path>>v&1 != 0 {
			return
		}
		path |= 1 << v
		if table[v] == 0 {
			table[v] = path
		}
		table[v] &= path
		for _, to := range next[v] {
			walk(to, path)
		}
	}
	walk(0, 0)
	return table
}

// immediate finds the immediate dominators by the document's definition.
func immediate(table []uint32) []int {
	tree := slices.Repeat([]int{-1}, len(table))
	for v, all := range table {
		for d := range table {
			// All dominators of v but v itself, d among them, are to dominate d.
			others := all &^ (1 << v)
			if others>>d&1 != 0 && others&^table[d] == 0 {
				tree[v] = d
			}
		}
	}
	return tree
}

// frontiers finds the dominance frontiers by the document's definition.
func frontiers(next [][]int, table []uint32) []uint32 {
	dominates := func(a, b int) bool { return table[b]>>a&1 != 0 }
	edge := make([]uint32, len(next))
	for a := range next {
		for f := range next {
			for v := range next {
				if dominates(a, v) && slices.Contains(next[v], f) && (!dominates(a, f) || a == f) {
					edge[a] |= 1 << f
				}
			}
		}
	}
	return edge
}

// smallest returns what all sets have in common that contain the frontiers of the nodes of s and of their own nodes.
func smallest(edge []uint32, s uint32) uint32 {
	common := ^uint32(0)
	for set := range uint32(1) << len(edge) {
		holds := true
		for v, f := range edge {
			holds = holds && ((s|set)>>v&1 == 0 || f&^set == 0)
		}
		if holds {
			common &= set
		}
	}
	return common
}

// P3: arguments stay as they are, also beyond their length, and results share no memory.
func TestMemory(t *testing.T) {
	next, changed := sample.WatchedGraph()
	for range 2 {
		checkGraph(t, "memory", next, []uint32{1, 3, 5}, []int{-1, 0, 0}, []uint32{1, 5, 4})
		if m, e := rule.Meet(next, 2); m != 5 || e != api.OK {
			t.Errorf("Meet(%v, 2) = %b, %v, want 101", next, m, e)
		}
		table, _ := rule.Table(next)
		tree, _ := rule.Tree(next)
		edge, _ := rule.Edge(next)
		clear(table[:cap(table)])
		clear(tree[:cap(tree)])
		clear(edge[:cap(edge)])
	}
	if changed() {
		t.Errorf("the argument changed: %v", next)
	}
}
