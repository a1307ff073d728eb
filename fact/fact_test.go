package fact_test

import (
	"math"
	"slices"
	"testing"

	"codemason/api"
	"codemason/fact"
	"codemason/sample"
)

// allFacts is the set of all facts.
const allFacts = uint32(0xff)

// law is a problem of so many nodes, all of which have these facts.
func law(nodes int, start, makes, ends uint32) api.Law {
	return api.Law{
		Start: start,
		Makes: slices.Repeat([]uint32{makes}, nodes),
		Ends:  slices.Repeat([]uint32{ends}, nodes),
	}
}

// directions lists a problem and what differs from it only in Backwards and All.
func directions(l api.Law) []api.Law {
	all := slices.Repeat([]api.Law{l}, 4)
	for i := range all {
		all[i].Backwards = i&1 != 0
		all[i].All = i&2 != 0
	}
	return all
}

// checkRejected checks that both functions return this error, whatever the direction and the combination, and also for a path if there is none.
func checkRejected(t *testing.T, name string, next [][]int, l api.Law, want api.Errno) {
	t.Helper()
	for _, d := range directions(l) {
		for _, path := range [][]int{{0}, nil, {-1}} {
			if s, e := fact.Along(next, d, path); s != 0 || e != want {
				t.Errorf("%s: Along(%v, %v, %v) = %b, %v, want 0, %v", name, next, d, path, s, e, want)
			}
		}
		if s, e := fact.Solve(next, d); len(s) != 0 || e != want {
			t.Errorf("%s: Solve(%v, %v) = %b, %v, want an empty list, %v", name, next, d, s, e, want)
		}
	}
}

// I1, I2: the errors of way.Check, before those of the problem.
func TestInvalidGraphs(t *testing.T) {
	for _, c := range sample.BadGraphs() {
		nodes := len(c.Next)
		checkRejected(t, c.Name, c.Next, law(nodes, 0, 0, 0), c.Want)
		checkRejected(t, c.Name+", wrong length", c.Next, law(nodes+1, 0, 0, 0), c.Want)
		checkRejected(t, c.Name+", wrong bits", c.Next, law(nodes, 256, 256, 256), c.Want)
	}
}

// I1, I2: lists that do not have one element per node, before words that have other bits.
func TestWrongLengths(t *testing.T) {
	for nodes := 1; nodes <= api.MaxNodes; nodes++ {
		next := make([][]int, nodes)
		for _, wrong := range []int{0, nodes - 1, nodes + 1, 100} {
			for _, word := range []uint32{0, math.MaxUint32} {
				short, whole := law(wrong, word, word, word), law(nodes, word, word, word)
				checkRejected(t, "both", next, short, api.ErrForm)
				whole.Makes = short.Makes
				checkRejected(t, "Makes", next, whole, api.ErrForm)
				whole = law(nodes, word, word, word)
				whole.Ends = short.Ends
				checkRejected(t, "Ends", next, whole, api.ErrForm)
			}
		}
		checkRejected(t, "nil", next, api.Law{}, api.ErrForm)
	}
}

// I1, I2: bits that are not facts, in each word, alone or with all facts.
func TestWrongBits(t *testing.T) {
	for nodes := 1; nodes <= api.MaxNodes; nodes++ {
		next := make([][]int, nodes)
		for _, word := range []uint32{0, allFacts} {
			for bit := api.MaxFacts; bit < 32; bit++ {
				wrong := word | 1<<bit
				checkRejected(t, "Start", next, law(nodes, wrong, word, word), api.ErrRange)
				for v := range nodes {
					l := law(nodes, word, word, word)
					l.Makes[v] = wrong
					checkRejected(t, "Makes", next, l, api.ErrRange)
					l = law(nodes, word, word, word)
					l.Ends[v] = wrong
					checkRejected(t, "Ends", next, l, api.ErrRange)
				}
			}
			for _, d := range directions(law(nodes, word, word, word)) {
				if s, e := fact.Along(next, d, []int{nodes - 1}); s != word || e != api.OK {
					t.Errorf("Along(%v, %v, last node) = %b, %v, want %b", next, d, s, e, word)
				}
			}
		}
	}
}

// I1: lists that are not paths.
func TestNoPath(t *testing.T) {
	chain := [][]int{{1, 1}, {2}, {2}, {1}}
	check := func(backwards bool, path []int) {
		t.Helper()
		l := law(4, 1, 2, 4)
		l.Backwards = backwards
		if s, e := fact.Along(chain, l, path); s != 0 || e != api.ErrNone {
			t.Errorf("Along(%v, %v, %v) = %b, %v, want 0, ErrNone", chain, l, path, s, e)
		}
	}
	for _, backwards := range []bool{false, true} {
		check(backwards, nil)
		check(backwards, []int{})
		for _, v := range append(sample.Outside(4), 32, 33, 64) {
			for _, path := range [][]int{{v}, {v, v}, {v, 1}, {1, v}, {2, 2, v}} {
				check(backwards, path)
			}
		}
		for _, path := range [][]int{{0, 0}, {0, 2}, {2, 0}, {1, 3, 1}, {2, 2, 2, 3}, {0, 3}, {3, 0}} {
			check(backwards, path)
		}
	}
	for _, path := range [][]int{{0, 1}, {1, 2}, {0, 1, 2, 2}, {3, 1}} {
		check(true, path)
		back := slices.Clone(path)
		slices.Reverse(back)
		check(false, back)
	}
}

// I1: paths whose facts are easily seen; they may start anywhere.
func TestAlong(t *testing.T) {
	graph := [][]int{{1, 2}, {3}, {3, 2}, {}}
	makes, ends := []uint32{1, 2, 4, 8}, []uint32{32, 64, 1, 16}
	for _, c := range []struct {
		name      string
		backwards bool
		start     uint32
		path      []int
		want      uint32
	}{
		{"one node, nothing yet", false, 0, []int{0}, 0},
		{"one node", false, 0xf0, []int{0}, 0xf0},
		{"a node that is not the entry", false, 0xf0, []int{2}, 0xf0},
		{"a node that is not an exit", true, 0xf0, []int{2}, 0xf0},
		{"an edge", false, 0xf0, []int{0, 1}, 0xd1},
		{"two edges", false, 0xf0, []int{0, 1, 3}, 0x93},
		{"a fact that is killed again", false, 0xf0, []int{0, 2, 3}, 0xd4},
		{"a node twice", false, 0xf0, []int{0, 2, 2}, 0xd4},
		{"from within", false, 0xf1, []int{2, 2, 2, 3}, 0xf4},
		{"backwards", true, 0xf0, []int{3, 1}, 0xe8},
		{"backwards to the entry", true, 0xf0, []int{3, 1, 0}, 0xaa},
		{"backwards around", true, 0xf1, []int{3, 2, 2, 0}, 0xec},
		{"backwards from within", true, 0, []int{1, 0}, 2},
	} {
		for _, all := range []bool{false, true} {
			l := api.Law{Backwards: c.backwards, All: all, Start: c.start, Makes: makes, Ends: ends}
			if s, e := fact.Along(graph, l, c.path); s != c.want || e != api.OK {
				t.Errorf("%s: Along(%v, %v, %v) = %b, %v, want %b", c.name, graph, l, c.path, s, e, c.want)
			}
		}
	}
	// What is both killed and generated holds, whether it held before or not.
	for _, start := range []uint32{0, 6} {
		if s, e := fact.Along([][]int{{0}}, law(1, start, 6, 2), []int{0, 0}); s != 6 || e != api.OK {
			t.Errorf("killed and generated: %b, %v, want 110", s, e)
		}
	}
}

// I1: a path may be much longer than the graph is large.
func TestLongPath(t *testing.T) {
	path := make([]int, 1_000_000)
	for i := range path {
		path[i] = i % 2
	}
	l := api.Law{Start: 16, Makes: []uint32{1, 2}, Ends: []uint32{2, 1}}
	for _, d := range directions(l) {
		if s, e := fact.Along([][]int{{1}, {0}}, d, path); s != 17 || e != api.OK {
			t.Errorf("Along(.., %v, ..) = %b, %v, want 10001", d, s, e)
		}
		if s, e := fact.Along([][]int{{1}, {0}}, d, append(path, 1)); s != 0 || e != api.ErrNone {
			t.Errorf("Along(.., %v, ..) with a wrong end = %b, %v, want 0, ErrNone", d, s, e)
		}
	}
}

// I2: problems whose solutions are easily seen, the document's example first.
func TestSolve(t *testing.T) {
	diamond := [][]int{{1, 2}, {3}, {3}, {}}
	apart := [][]int{{1}, {}, {1, 2}, {3}}
	none := func(n int) []uint32 { return make([]uint32, n) }
	for _, c := range []struct {
		name      string
		next      [][]int
		backwards bool
		start     uint32
		makes     []uint32
		ends      []uint32
		all, some []uint32
	}{
		{"example", diamond, false, 0, []uint32{0, 1, 0, 0}, none(4), []uint32{0, 0, 0, 0}, []uint32{0, 0, 0, 1}},
		{"on both paths", diamond, false, 0, []uint32{0, 1, 1, 0}, none(4), []uint32{0, 0, 0, 1}, []uint32{0, 0, 0, 1}},
		{"killed on one path", diamond, false, 3, none(4), []uint32{0, 0, 1, 0}, []uint32{3, 3, 3, 2}, []uint32{3, 3, 3, 3}},
		{"killed on both paths", diamond, false, 3, none(4), []uint32{0, 1, 1, 0}, []uint32{3, 3, 3, 2}, []uint32{3, 3, 3, 2}},
		{"generated at the end", diamond, false, 0, []uint32{0, 0, 0, 1}, none(4), []uint32{0, 0, 0, 0}, []uint32{0, 0, 0, 0}},
		{"backwards", diamond, true, 4, []uint32{0, 1, 0, 2}, none(4), []uint32{6, 6, 6, 4}, []uint32{7, 6, 6, 4}},
		{"one node", [][]int{nil}, false, 5, []uint32{2}, []uint32{1}, []uint32{5}, []uint32{5}},
		{"one node backwards", [][]int{nil}, true, 5, []uint32{2}, []uint32{1}, []uint32{5}, []uint32{5}},
		{"an edge to itself", [][]int{{0}}, false, 5, []uint32{2}, []uint32{1}, []uint32{4}, []uint32{7}},
		{"an edge to itself backwards: no exit", [][]int{{0}}, true, 5, []uint32{2}, []uint32{1}, []uint32{255}, []uint32{0}},
		{"around the entry", [][]int{{1}, {0}}, false, 4, []uint32{1, 2}, []uint32{2, 4}, []uint32{0, 1}, []uint32{7, 5}},
		{"nothing reaches them", apart, false, 0, []uint32{1, 0, 2, 4}, []uint32{0, 0, 1, 0}, []uint32{0, 1, 255, 255}, []uint32{0, 1, 0, 0}},
		{"killed where nothing reaches", apart, false, 8, none(4), []uint32{0, 0, 8, 8}, []uint32{8, 8, 255, 255}, []uint32{8, 8, 0, 0}},
		{"no exit behind it", [][]int{{1, 2}, nil, {2}, {0, 2}}, true, 0, []uint32{1, 2, 4, 8}, []uint32{2, 0, 2, 0},
			[]uint32{2, 0, 255, 1}, []uint32{2, 0, 0, 1}},
		{"no exit at all", [][]int{{1}, {0}}, true, 255, []uint32{1, 2}, []uint32{4, 8}, []uint32{255, 255}, []uint32{0, 0}},
		{"several exits", [][]int{{1, 2}, nil, nil, nil}, true, 8, []uint32{1, 2, 4, 16}, []uint32{0, 8, 0, 8},
			[]uint32{0, 8, 8, 8}, []uint32{14, 8, 8, 8}},
		{"all edges to the entry", [][]int{{1, 2}, {0}, {0}}, false, 1, []uint32{0, 2, 4}, []uint32{0, 1, 1}, []uint32{0, 0, 0}, []uint32{7, 7, 7}},
		{"more edges backwards than a node may have", [][]int{{7}, {7}, {7}, {7}, {7}, {7}, {7}, nil}, true, 1,
			[]uint32{0, 0, 0, 0, 0, 0, 0, 2}, none(8), []uint32{3, 3, 3, 3, 3, 3, 3, 1}, []uint32{3, 3, 3, 3, 3, 3, 3, 1}},
		{"most nodes without edges", make([][]int, 8), false, 9, none(8), none(8),
			[]uint32{9, 255, 255, 255, 255, 255, 255, 255}, []uint32{9, 0, 0, 0, 0, 0, 0, 0}},
		{"most nodes, all exits", make([][]int, 8), true, 9, none(8), none(8), slices.Repeat([]uint32{9}, 8), slices.Repeat([]uint32{9}, 8)},
		{"a chain against the numbers", [][]int{{7}, nil, {1}, {2}, {3}, {4}, {5}, {6}}, false, 0, []uint32{1, 0, 64, 32, 16, 8, 4, 2}, none(8),
			[]uint32{0, 127, 63, 31, 15, 7, 3, 1}, []uint32{0, 127, 63, 31, 15, 7, 3, 1}},
	} {
		l := api.Law{Backwards: c.backwards, All: true, Start: c.start, Makes: c.makes, Ends: c.ends}
		checkSolve(t, c.name, c.next, l, c.all)
		l.All = false
		checkSolve(t, c.name, c.next, l, c.some)
	}
}

// checkSolve compares Solve with what is expected for a valid problem.
func checkSolve(t *testing.T, name string, next [][]int, l api.Law, want []uint32) {
	t.Helper()
	if s, e := fact.Solve(next, l); !slices.Equal(s, want) || e != api.OK {
		t.Fatalf("%s: Solve(%v, %v) = %b, %v, want %b", name, next, l, s, e, want)
	}
}

// I2: all graphs of few nodes, with problems that follow a fixed rule.
func TestShortGraphs(t *testing.T) {
	pick := sample.Numbers()
	for next := range sample.ShortGraphs(3) {
		for _, d := range directions(randomLaw(pick, len(next))) {
			checkDefinition(t, next, d)
		}
	}
}

// I1, I2: all problems with one fact on all graphs of at most two nodes: eight of them make up one problem.
func TestAllLaws(t *testing.T) {
	for next := range sample.ShortGraphs(2) {
		nodes := len(next)
		for first := 0; first < 1<<(2*nodes+1); first += api.MaxFacts {
			l := law(nodes, 0, 0, 0)
			for f := range api.MaxFacts {
				choice := first + f
				l.Start |= uint32(choice&1) << f
				for v := range nodes {
					l.Makes[v] |= uint32(choice>>(2*v+1)&1) << f
					l.Ends[v] |= uint32(choice>>(2*v+2)&1) << f
				}
			}
			for _, d := range directions(l) {
				checkDefinition(t, next, d)
				checkLists(t, next, d, nil, 4)
			}
		}
	}
}

// I1, I2: larger graphs and problems that follow a fixed rule, with few edges or many.
func TestLargeGraphs(t *testing.T) {
	pick := sample.Numbers()
	for range 200 {
		for nodes := 4; nodes <= api.MaxNodes; nodes++ {
			for most := 1; most <= api.MaxNext; most++ {
				next := sample.Graph(pick, nodes, most)
				for _, d := range directions(randomLaw(pick, nodes)) {
					checkDefinition(t, next, d)
					checkAlong(t, next, d, walk(pick, next, d.Backwards, 20))
				}
			}
		}
	}
}

// randomLaw builds a problem for so many nodes, with few facts, half of them or most of them in each word.
func randomLaw(pick func(int) int, nodes int) api.Law {
	word := func(density int) uint32 {
		a, b := uint32(pick(256)), uint32(pick(256))
		return []uint32{a & b, a, a | b}[density]
	}
	l := law(nodes, word(pick(3)), 0, 0)
	makes, ends := pick(3), pick(3)
	for v := range nodes {
		l.Makes[v], l.Ends[v] = word(makes), word(ends)
	}
	return l
}

// walk builds a path of up to so many nodes from any node.
func walk(pick func(int) int, next [][]int, backwards bool, most int) []int {
	path := []int{pick(len(next))}
	for len(path) < most {
		later := followers(next, backwards, path[len(path)-1])
		if len(later) == 0 {
			break
		}
		path = append(path, later[pick(len(later))])
	}
	return path
}

// followers lists what may come next after node v in a path.
func followers(next [][]int, backwards bool, v int) []int {
	var later []int
	for to := range next {
		if !backwards && slices.Contains(next[v], to) || backwards && slices.Contains(next[to], v) {
			later = append(later, to)
		}
	}
	return later
}

// checkLists compares Along with the document's definition for a list and all that extend it to so many numbers.
func checkLists(t *testing.T, next [][]int, l api.Law, list []int, most int) {
	t.Helper()
	checkAlong(t, next, l, list)
	if len(list) < most {
		for v := range next {
			checkLists(t, next, l, append(slices.Clone(list), v), most)
		}
	}
}

// checkAlong compares Along with the document's definition for a list of nodes.
func checkAlong(t *testing.T, next [][]int, l api.Law, list []int) {
	t.Helper()
	want, wantError := l.Start, api.OK
	for i := range list {
		if i > 0 && !slices.Contains(followers(next, l.Backwards, list[i-1]), list[i]) {
			wantError = api.ErrNone
		} else if i > 0 {
			want = behind(l, list[i-1], want)
		}
	}
	if len(list) == 0 || wantError != api.OK {
		want, wantError = 0, api.ErrNone
	}
	if s, e := fact.Along(next, l, list); s != want || e != wantError {
		t.Fatalf("Along(%v, %v, %v) = %b, %v, want %b, %v", next, l, list, s, e, want, wantError)
	}
}

// behind returns, fact by fact, what holds after a node.
func behind(l api.Law, v int, before uint32) uint32 {
	var after uint32
	for f := range api.MaxFacts {
		bit := uint32(1) << f
		generated, killed := l.Makes[v]&bit != 0, l.Ends[v]&bit != 0
		if generated || before&bit != 0 && !killed {
			after |= bit
		}
	}
	return after
}

// checkDefinition compares Solve with what holds along the paths themselves. Of paths to one node with the same facts before it, one suffices.
func checkDefinition(t *testing.T, next [][]int, l api.Law) {
	t.Helper()
	seen := make([][allFacts + 1]bool, len(next))
	want := make([]uint32, len(next))
	for v := range want {
		if l.All {
			want[v] = allFacts
		}
	}
	var visit func(v int, facts uint32)
	visit = func(v int, facts uint32) {
		if seen[v][facts] {
			return
		}
		seen[v][facts] = true
		if l.All {
			want[v] &= facts
		} else {
			want[v] |= facts
		}
		for _, to := range followers(next, l.Backwards, v) {
			visit(to, behind(l, v, facts))
		}
	}
	for v, targets := range next {
		if !l.Backwards && v == 0 || l.Backwards && len(targets) == 0 {
			visit(v, l.Start)
		}
	}
	checkSolve(t, "definition", next, l, want)
}

// P3: arguments stay as they are, also beyond their length, and results share no memory.
func TestMemory(t *testing.T) {
	next, changed := sample.WatchedGraph()
	// The list of the last node is empty now, but has an edge beyond its length.
	next[2] = next[2][:0]
	words := []uint32{1, 2, 4, 90, 2, 4, 1, 91}
	path := []int{0, 1, 0, 1, 2, 92}
	wordsBefore, pathBefore := slices.Clone(words), slices.Clone(path)
	l := api.Law{Start: 8, Makes: words[:3], Ends: words[4:7]}
	wants := [][]uint32{{11, 9, 11}, {15, 13, 8}, {8, 9, 9}, {8, 8, 8}}
	for range 2 {
		for i, d := range directions(l) {
			checkSolve(t, "memory", next, d, wants[i])
			checkAlong(t, next, d, path[:5])
			s, _ := fact.Solve(next, d)
			clear(s[:cap(s)])
		}
	}
	next[2] = next[2][:1]
	if changed() || !slices.Equal(words, wordsBefore) || !slices.Equal(path, pathBefore) {
		t.Errorf("the arguments changed: %v, %v, %v", next, words, path)
	}
}
