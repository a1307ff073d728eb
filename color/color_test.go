package color_test

import (
	"math"
	"slices"
	"testing"

	"codemason/api"
	"codemason/color"
	"codemason/sample"
)

// O1, O2: the common errors and their order, also before the errors of the last arguments.
func TestInvalidPairs(t *testing.T) {
	for _, c := range sample.BadPairs(api.MaxNodes) {
		if l, e := color.Least(c.N, c.Pairs); len(l) != 0 || e != c.Want {
			t.Errorf("%s: Least(%d, %v) = %v, %v, want an empty list, %v", c.Name, c.N, c.Pairs, l, e, c.Want)
		}
		if s, e := color.Clique(c.N, c.Pairs); s != 0 || e != c.Want {
			t.Errorf("%s: Clique(%d, %v) = %b, %v, want 0, %v", c.Name, c.N, c.Pairs, s, e, c.Want)
		}
		if l, e := color.Perfect(c.N, c.Pairs); len(l) != 0 || e != c.Want {
			t.Errorf("%s: Perfect(%d, %v) = %v, %v, want an empty list, %v", c.Name, c.N, c.Pairs, l, e, c.Want)
		}
		for _, order := range [][]int{nil, {-1}, sample.UpTo(max(0, min(c.N, 9)))} {
			if l, e := color.Greedy(c.N, c.Pairs, order); len(l) != 0 || e != c.Want {
				t.Errorf("%s: Greedy(%d, %v, %v) = %v, %v, want an empty list, %v", c.Name, c.N, c.Pairs, order, l, e, c.Want)
			}
		}
		for _, k := range []int{0, 2, -1} {
			if s, e := color.Peel(c.N, c.Pairs, k); s != 0 || e != c.Want {
				t.Errorf("%s: Peel(%d, %v, %d) = %b, %v, want 0, %v", c.Name, c.N, c.Pairs, k, s, e, c.Want)
			}
		}
	}
}

// O1: orders that do not contain every thing exactly once.
func TestInvalidOrders(t *testing.T) {
	for n := 1; n <= api.MaxNodes; n++ {
		for _, order := range sample.BadOrders(n) {
			for _, pairs := range [][][2]int{nil, sample.AllPairs(n)} {
				if l, e := color.Greedy(n, pairs, order); len(l) != 0 || e != api.ErrForm {
					t.Errorf("Greedy(%d, %v, %v) = %v, %v, want an empty list, %v", n, pairs, order, l, e, api.ErrForm)
				}
			}
		}
	}
}

// O2: negative numbers to peel by.
func TestInvalidPeel(t *testing.T) {
	for _, k := range []int{-1, -2, -api.MaxNodes, math.MinInt} {
		for n := 1; n <= api.MaxNodes; n++ {
			for _, pairs := range [][][2]int{nil, sample.AllPairs(n)} {
				if s, e := color.Peel(n, pairs, k); s != 0 || e != api.ErrRange {
					t.Errorf("Peel(%d, %v, %d) = %b, %v, want 0, %v", n, pairs, k, s, e, api.ErrRange)
				}
			}
		}
	}
}

// ring lists pairs of n things that conflict in a cycle.
func ring(n int) [][2]int {
	var pairs [][2]int
	for v := range n {
		pairs = append(pairs, [2]int{v, (v + 1) % n})
	}
	return pairs
}

// wheel lists pairs of things that conflict in a cycle, and all with one more thing.
func wheel(rim int) [][2]int {
	pairs := ring(rim)
	for v := range rim {
		pairs = append(pairs, [2]int{rim, v})
	}
	return pairs
}

// sides lists pairs of things on two sides that conflict unless they are opposite each other: even things are on one side.
func sides() [][2]int {
	var pairs [][2]int
	for a := 0; a < 8; a += 2 {
		for b := 1; b < 8; b += 2 {
			if b != a+1 {
				pairs = append(pairs, [2]int{a, b})
			}
		}
	}
	return pairs
}

// O1, O2: things whose results are easily seen, the document's example first.
func TestThings(t *testing.T) {
	for _, c := range []struct {
		name    string
		n       int
		pairs   [][2]int
		least   []int
		greedy  []int // in the order of the numbers
		clique  uint32
		peeled  [4]uint32 // for 0 to 3
		perfect []int
	}{
		{"example", 4, ring(4), []int{0, 1, 0, 1}, []int{0, 1, 0, 1}, 3, [4]uint32{15, 15, 15, 0}, nil},
		{"one thing", 1, nil, []int{0}, []int{0}, 1, [4]uint32{1, 0, 0, 0}, []int{0}},
		{"no conflicts", 8, [][2]int{}, make([]int, 8), make([]int, 8), 1, [4]uint32{255, 0, 0, 0}, sample.UpTo(8)},
		{"one pair", 2, [][2]int{{1, 0}}, []int{0, 1}, []int{0, 1}, 3, [4]uint32{3, 3, 0, 0}, []int{0, 1}},
		{"one pair, and again", 3, [][2]int{{2, 1}, {1, 2}, {2, 1}}, []int{0, 0, 1}, []int{0, 0, 1}, 6, [4]uint32{7, 6, 0, 0}, sample.UpTo(3)},
		{"all conflict", 8, sample.AllPairs(8), sample.UpTo(8), sample.UpTo(8), 255, [4]uint32{255, 255, 255, 255}, sample.UpTo(8)},
		{"the path 0, 2, 1", 3, [][2]int{{0, 2}, {2, 1}}, []int{0, 0, 1}, []int{0, 0, 1}, 5, [4]uint32{7, 7, 0, 0}, sample.UpTo(3)},
		{"a path whose middle comes first", 3, ring(3)[:2], []int{0, 1, 0}, []int{0, 1, 0}, 3, [4]uint32{7, 7, 0, 0}, []int{0, 1, 2}},
		{"a star around 0", 4, [][2]int{{0, 1}, {0, 2}, {0, 3}}, []int{0, 1, 1, 1}, []int{0, 1, 1, 1}, 3,
			[4]uint32{15, 15, 0, 0}, []int{1, 2, 0, 3}},
		{"the ends first are not the least", 4, [][2]int{{0, 2}, {2, 3}, {3, 1}}, []int{0, 1, 1, 0}, []int{0, 0, 1, 2}, 5,
			[4]uint32{15, 15, 0, 0}, []int{0, 1, 2, 3}},
		{"a cycle of five", 5, ring(5), []int{0, 1, 0, 1, 2}, []int{0, 1, 0, 1, 2}, 3, [4]uint32{31, 31, 31, 0}, nil},
		{"a wheel of an odd rim", 6, wheel(5), []int{0, 1, 0, 1, 2, 3}, []int{0, 1, 0, 1, 2, 3}, 35,
			[4]uint32{63, 63, 63, 63}, nil},
		{"a triangle and a tail", 5, append(ring(3), [2]int{2, 4}, [2]int{4, 3}), []int{0, 1, 2, 0, 1}, []int{0, 1, 2, 0, 1}, 7,
			[4]uint32{31, 31, 7, 0}, []int{0, 1, 2, 3, 4}},
		{"two triangles, the later one first", 6, [][2]int{{5, 4}, {4, 3}, {3, 5}, {0, 1}, {1, 2}, {2, 0}},
			[]int{0, 1, 2, 0, 1, 2}, []int{0, 1, 2, 0, 1, 2}, 7, [4]uint32{63, 63, 63, 0}, sample.UpTo(6)},
		{"two sides", 8, sides(), []int{0, 1, 0, 1, 0, 1, 0, 1}, []int{0, 0, 1, 1, 2, 2, 3, 3}, 6,
			[4]uint32{255, 255, 255, 255}, nil},
	} {
		checkThings(t, c.name, c.n, c.pairs, c.least, c.clique, c.perfect)
		if l, e := color.Greedy(c.n, c.pairs, sample.UpTo(c.n)); !slices.Equal(l, c.greedy) || e != api.OK {
			t.Errorf("%s: Greedy(%d, %v) = %v, %v, want %v", c.name, c.n, c.pairs, l, e, c.greedy)
		}
		for k, want := range c.peeled {
			if s, e := color.Peel(c.n, c.pairs, k); s != want || e != api.OK {
				t.Errorf("%s: Peel(%d, %v, %d) = %b, %v, want %b", c.name, c.n, c.pairs, k, s, e, want)
			}
		}
	}
}

// O2: numbers to peel by that are as great as what conflicts, or greater.
func TestPeelMuch(t *testing.T) {
	for n := 1; n <= api.MaxNodes; n++ {
		for _, c := range []struct {
			k    int
			want uint32
		}{{n - 1, 1<<n - 1}, {n, 0}, {n + 1, 0}, {32, 0}, {1 << 32, 0}, {math.MaxInt, 0}} {
			if s, e := color.Peel(n, sample.AllPairs(n), c.k); s != c.want || e != api.OK {
				t.Errorf("Peel(%d, all, %d) = %b, %v, want %b", n, c.k, s, e, c.want)
			}
		}
	}
}

// checkThings compares the results of the functions without further arguments. There is no perfect elimination order if perfect is nil.
func checkThings(t *testing.T, name string, n int, pairs [][2]int, least []int, clique uint32, perfect []int) {
	t.Helper()
	if l, e := color.Least(n, pairs); !slices.Equal(l, least) || e != api.OK {
		t.Fatalf("%s: Least(%d, %v) = %v, %v, want %v", name, n, pairs, l, e, least)
	}
	if s, e := color.Clique(n, pairs); s != clique || e != api.OK {
		t.Fatalf("%s: Clique(%d, %v) = %b, %v, want %b", name, n, pairs, s, e, clique)
	}
	want := api.OK
	if perfect == nil {
		want = api.ErrNone
	}
	if l, e := color.Perfect(n, pairs); !slices.Equal(l, perfect) || e != want {
		t.Fatalf("%s: Perfect(%d, %v) = %v, %v, want %v, %v", name, n, pairs, l, e, perfect, want)
	}
}

// O1, O2: all conflicts of few things.
func TestFewThings(t *testing.T) {
	pick := sample.Numbers()
	for n := 1; n <= 5; n++ {
		for pairs := range sample.Subsets(sample.AllPairs(n)) {
			checkDefinitions(t, pick, n, mixed(pick, pairs))
		}
	}
}

// O1, O2: conflicts of more things that follow a fixed rule, few of them or many, with perfect elimination orders and without.
func TestManyThings(t *testing.T) {
	pick := sample.Numbers()
	for n := 6; n <= api.MaxNodes; n++ {
		for tenths := range 11 {
			for range 10 {
				checkDefinitions(t, pick, n, mixed(pick, sample.SomePairs(pick, n, tenths)))
				checkDefinitions(t, pick, n, mixed(pick, perfectPairs(pick, n, tenths)))
			}
		}
	}
}

// checkDefinitions compares all functions with the document's definitions.
func checkDefinitions(t *testing.T, pick func(int) int, n int, pairs [][2]int) {
	t.Helper()
	checkThings(t, "definition", n, pairs, smallestColoring(n, pairs), largestClique(n, pairs), firstPerfect(n, pairs))
	for range 4 {
		order := sample.Shuffled(pick, n)
		want := firstColors(n, pairs, order)
		if l, e := color.Greedy(n, pairs, order); !slices.Equal(l, want) || e != api.OK {
			t.Fatalf("Greedy(%d, %v, %v) = %v, %v, want %v", n, pairs, order, l, e, want)
		}
	}
	for k := range n + 1 {
		want := peeled(pick, n, pairs, k)
		if s, e := color.Peel(n, pairs, k); s != want || e != api.OK {
			t.Fatalf("Peel(%d, %v, %d) = %b, %v, want %b", n, pairs, k, s, e, want)
		}
	}
}

// P3: pairs and orders are neither changed nor kept, what is beyond their lists does not matter, and results are new.
func TestMemory(t *testing.T) {
	allPairs, allOrder := [][2]int{{0, 2}, {2, 1}, {3, 1}, {3, 0}, {9, -1}}, []int{3, 2, 0, 1, 9}
	pairsBefore, orderBefore := slices.Clone(allPairs), slices.Clone(allOrder)
	pairs, order := allPairs[:3], allOrder[:4]
	for range 2 {
		checkThings(t, "memory", 4, pairs, []int{0, 0, 1, 1}, 5, []int{0, 2, 1, 3})
		greedy, e := color.Greedy(4, pairs, order)
		if !slices.Equal(greedy, []int{1, 1, 0, 0}) || e != api.OK {
			t.Errorf("Greedy(4, %v, %v) = %v, %v", pairs, order, greedy, e)
		}
		if s, e := color.Peel(4, pairs, 1); s != 15 || e != api.OK {
			t.Errorf("Peel(4, %v, 1) = %b, %v", pairs, s, e)
		}
		least, _ := color.Least(4, pairs)
		perfect, _ := color.Perfect(4, pairs)
		clear(greedy[:cap(greedy)])
		clear(least[:cap(least)])
		clear(perfect[:cap(perfect)])
	}
	if !slices.Equal(allPairs, pairsBefore) || !slices.Equal(allOrder, orderBefore) {
		t.Errorf("the arguments changed: %v, %v", allPairs, allOrder)
	}
}
