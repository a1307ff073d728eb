package plan_test

import (
	"slices"
	"testing"

	"codemason/api"
	"codemason/plan"
	"codemason/sample"
)

// checkRejected checks that all functions return an error, whatever the hands and the order are.
func checkRejected(t *testing.T, name string, n int, pairs [][2]int, want api.Errno) {
	t.Helper()
	if l, e := plan.Levels(n, pairs); len(l) != 0 || e != want {
		t.Errorf("%s: Levels(%d, %v) = %v, %v, want an empty list, %v", name, n, pairs, l, e, want)
	}
	for _, hands := range []int{1, api.MaxRegs, 0, -1, api.MaxRegs + 1} {
		if count, e := plan.Best(n, pairs, hands); count != 0 || e != want {
			t.Errorf("%s: Best(%d, %v, %d) = %d, %v, want 0, %v", name, n, pairs, hands, count, e, want)
		}
		for _, order := range [][]int{nil, {-1}, sample.UpTo(max(0, min(n, api.MaxTasks+1)))} {
			if l, e := plan.List(n, pairs, hands, order); len(l) != 0 || e != want {
				t.Errorf("%s: List(%d, %v, %d, %v) = %v, %v, want an empty list, %v", name, n, pairs, hands, order, l, e, want)
			}
		}
	}
}

// Q1: the common errors and their order, also before the errors of hands and order. A task that must precede itself is a cycle.
func TestInvalidPairs(t *testing.T) {
	for _, c := range sample.BadPairs(api.MaxTasks) {
		checkRejected(t, c.Name, c.N, c.Pairs, c.Want)
	}
}

// ring lists pairs that contain one cycle, of the given tasks.
func ring(tasks []int) [][2]int {
	var pairs [][2]int
	for i, v := range tasks {
		pairs = append(pairs, [2]int{v, tasks[(i+1)%len(tasks)]})
	}
	return pairs
}

// Q1: cycles of all lengths, with tasks before and behind them.
func TestCycles(t *testing.T) {
	pick := sample.Numbers()
	for n := 1; n <= api.MaxTasks; n++ {
		for length := 1; length <= n; length++ {
			names := sample.Shuffled(pick, n)
			pairs := ring(names[:length])
			checkRejected(t, "cycle", n, pairs, api.ErrForm)
			for v := length; v < n; v++ {
				pairs = append(pairs, [2]int{names[0], names[v]})
			}
			checkRejected(t, "cycle with tasks behind", n, pairs, api.ErrForm)
			for i := length; i < len(pairs); i++ {
				slices.Reverse(pairs[i][:])
			}
			checkRejected(t, "cycle with tasks before", n, pairs, api.ErrForm)
			checkRejected(t, "arg before cycle", n, append(pairs, [2]int{0, n}), api.ErrArg)
			checkRejected(t, "cycle among equal pairs", n, append(slices.Repeat(pairs[length-1:length], api.MaxPairs-len(pairs)), pairs...), api.ErrForm)
		}
	}
	forwards := sample.AllPairs(api.MaxTasks)
	forwards[0] = [2]int{7, 0}
	checkRejected(t, "most pairs", api.MaxTasks, forwards, api.ErrForm)
}

// Q1: numbers of hands, which are checked before the order.
func TestInvalidHands(t *testing.T) {
	for n := 1; n <= api.MaxTasks; n++ {
		for _, hands := range append(sample.Outside(api.MaxRegs+1), 0) {
			for _, pairs := range [][][2]int{nil, sample.AllPairs(n)} {
				if count, e := plan.Best(n, pairs, hands); count != 0 || e != api.ErrRange {
					t.Errorf("Best(%d, %v, %d) = %d, %v, want 0, %v", n, pairs, hands, count, e, api.ErrRange)
				}
				for _, order := range [][]int{nil, {-1}, {n}, sample.UpTo(n)} {
					if l, e := plan.List(n, pairs, hands, order); len(l) != 0 || e != api.ErrRange {
						t.Errorf("List(%d, %v, %d, %v) = %v, %v, want an empty list, %v", n, pairs, hands, order, l, e, api.ErrRange)
					}
				}
			}
		}
	}
}

// Q1: orders that do not contain every task exactly once.
func TestInvalidOrders(t *testing.T) {
	for n := 1; n <= api.MaxTasks; n++ {
		for _, order := range sample.BadOrders(n) {
			for _, hands := range []int{1, api.MaxRegs} {
				for _, pairs := range [][][2]int{nil, sample.AllPairs(n)} {
					if l, e := plan.List(n, pairs, hands, order); len(l) != 0 || e != api.ErrForm {
						t.Errorf("List(%d, %v, %d, %v) = %v, %v, want an empty list, %v", n, pairs, hands, order, l, e, api.ErrForm)
					}
				}
			}
		}
	}
}

// star lists pairs of task 0 with each other one, which must be executed later.
func star(n int) [][2]int {
	var pairs [][2]int
	for v := 1; v < n; v++ {
		pairs = append(pairs, [2]int{0, v})
	}
	return pairs
}

// Q1: tasks whose results are easily seen, the document's example first.
func TestTasks(t *testing.T) {
	line := [][2]int{{0, 1}, {1, 2}, {2, 3}}
	late := [][2]int{{3, 4}, {4, 5}}
	for _, c := range []struct {
		name   string
		n      int
		pairs  [][2]int
		hands  int
		levels []int
		order  []int
		steps  []int
		best   int
	}{
		{"example", 3, nil, 2, []int{1, 1, 1}, []int{0, 1, 2}, []int{0, 0, 1}, 2},
		{"example in another order", 3, [][2]int{}, 2, []int{1, 1, 1}, []int{2, 1, 0}, []int{1, 0, 0}, 2},
		{"one task", 1, nil, 1, []int{1}, []int{0}, []int{0}, 1},
		{"one task and many hands", 1, nil, 8, []int{1}, []int{0}, []int{0}, 1},
		{"one hand", 3, nil, 1, []int{1, 1, 1}, []int{1, 2, 0}, []int{2, 0, 1}, 3},
		{"a hand for each task", 8, nil, 8, []int{1, 1, 1, 1, 1, 1, 1, 1}, sample.UpTo(8), make([]int, 8), 1},
		{"one hand too few", 8, nil, 7, []int{1, 1, 1, 1, 1, 1, 1, 1}, sample.UpTo(8), []int{0, 0, 0, 0, 0, 0, 0, 1}, 2},
		{"a line", 4, line, 8, []int{4, 3, 2, 1}, []int{0, 1, 2, 3}, []int{0, 1, 2, 3}, 4},
		{"a line, the last one first", 4, line, 1, []int{4, 3, 2, 1}, []int{3, 2, 1, 0}, []int{0, 1, 2, 3}, 4},
		{"a line, again and again", 4, slices.Repeat(line, 9), 2, []int{4, 3, 2, 1}, []int{3, 0, 1, 2}, []int{0, 1, 2, 3}, 4},
		{"a line with shorter ways", 8, sample.AllPairs(8), 3, []int{8, 7, 6, 5, 4, 3, 2, 1}, sample.UpTo(8), sample.UpTo(8), 8},
		{"one task, and then all others", 8, star(8), 8, []int{2, 1, 1, 1, 1, 1, 1, 1}, []int{1, 2, 3, 4, 5, 6, 7, 0}, []int{0, 1, 1, 1, 1, 1, 1, 1}, 2},
		{"one task, and then few at a time", 5, star(5), 3, []int{2, 1, 1, 1, 1}, []int{4, 2, 1, 3, 0}, []int{0, 1, 1, 2, 1}, 3},
		{"no hand rests for a task that is not ready", 3, [][2]int{{2, 0}}, 1, []int{1, 1, 2}, []int{0, 1, 2}, []int{2, 0, 1}, 3},
		{"two lines", 4, [][2]int{{0, 1}, {2, 3}}, 2, []int{2, 1, 2, 1}, []int{0, 1, 2, 3}, []int{0, 1, 0, 1}, 2},
		{"the order is not the best one", 6, late, 2, []int{1, 1, 1, 3, 2, 1}, []int{0, 1, 2, 3, 4, 5}, []int{0, 0, 1, 1, 2, 3}, 3},
		{"a line first is the best order", 6, late, 2, []int{1, 1, 1, 3, 2, 1}, []int{3, 4, 5, 0, 1, 2}, []int{0, 1, 2, 0, 1, 2}, 3},
	} {
		checkLevels(t, c.name, c.n, c.pairs, c.levels)
		checkList(t, c.name, c.n, c.pairs, c.hands, c.order, c.steps)
		checkBest(t, c.name, c.n, c.pairs, c.hands, c.best)
	}
}

// checkLevels compares the levels.
func checkLevels(t *testing.T, name string, n int, pairs [][2]int, want []int) {
	t.Helper()
	if l, e := plan.Levels(n, pairs); !slices.Equal(l, want) || e != api.OK {
		t.Fatalf("%s: Levels(%d, %v) = %v, %v, want %v", name, n, pairs, l, e, want)
	}
}

// checkList compares the time steps of an order.
func checkList(t *testing.T, name string, n int, pairs [][2]int, hands int, order, want []int) {
	t.Helper()
	if l, e := plan.List(n, pairs, hands, order); !slices.Equal(l, want) || e != api.OK {
		t.Fatalf("%s: List(%d, %v, %d, %v) = %v, %v, want %v", name, n, pairs, hands, order, l, e, want)
	}
}

// checkBest compares the smallest number of time steps.
func checkBest(t *testing.T, name string, n int, pairs [][2]int, hands, want int) {
	t.Helper()
	if count, e := plan.Best(n, pairs, hands); count != want || e != api.OK {
		t.Fatalf("%s: Best(%d, %v, %d) = %d, %v, want %d", name, n, pairs, hands, count, e, want)
	}
}

// everyPair lists all pairs of tasks below n, also of a task with itself.
func everyPair(n int) [][2]int {
	var pairs [][2]int
	for a := range n {
		for b := range n {
			pairs = append(pairs, [2]int{a, b})
		}
	}
	return pairs
}

// Q1: all pairs of up to four tasks, with cycles and without: in all orders, and with all numbers of hands that matter.
func TestFewTasks(t *testing.T) {
	for n := 1; n <= 4; n++ {
		for pairs := range sample.Subsets(everyPair(n)) {
			if isAcyclic(n, pairs) {
				checkDefinitions(t, n, pairs)
			} else if l, e := plan.Levels(n, pairs); len(l) != 0 || e != api.ErrForm {
				t.Fatalf("Levels(%d, %v) = %v, %v, want an empty list, %v", n, pairs, l, e, api.ErrForm)
			}
		}
	}
}

// Q1: pairs of five tasks, each set of them with other names.
func TestFiveTasks(t *testing.T) {
	pick := sample.Numbers()
	for pairs := range sample.Subsets(sample.AllPairs(5)) {
		checkDefinitions(t, 5, renamed(sample.MixedPairs(pick, pairs), sample.Shuffled(pick, 5)))
	}
}

// checkDefinitions compares all functions with the document's definitions.
func checkDefinitions(t *testing.T, n int, pairs [][2]int) {
	t.Helper()
	checkLevels(t, "definition", n, pairs, levelsOf(n, pairs))
	for hands := 1; hands <= n; hands++ {
		best := fewestSteps(n, pairs, hands)
		checkBest(t, "definition", n, pairs, hands, best)
		for order := range sample.Orders(n) {
			checkList(t, "definition", n, pairs, hands, order, listed(n, pairs, hands, order))
		}
	}
	for hands := n + 1; hands <= api.MaxRegs; hands++ {
		checkBest(t, "more hands than tasks", n, pairs, hands, fewestSteps(n, pairs, n))
	}
}

// Q1: pairs of more tasks that follow a fixed rule, few of them or many.
func TestManyTasks(t *testing.T) {
	pick := sample.Numbers()
	for n := 6; n <= api.MaxTasks; n++ {
		for tenths := range 11 {
			for hands := 1; hands <= api.MaxRegs; hands++ {
				pairs := renamed(sample.MixedPairs(pick, sample.SomePairs(pick, n, tenths)), sample.Shuffled(pick, n))
				checkLevels(t, "many", n, pairs, levelsOf(n, pairs))
				for range 20 {
					order := sample.Shuffled(pick, n)
					checkList(t, "many", n, pairs, hands, order, listed(n, pairs, hands, order))
				}
				if n == 6 {
					checkBest(t, "many", n, pairs, hands, fewestListed(n, pairs, hands))
				}
			}
		}
	}
}

// Q1: the smallest numbers of time steps of eight tasks, by numbers of hands: two sides that are crossed, a waist, and no pairs.
func TestBestOfMany(t *testing.T) {
	crossed := [][2]int{{0, 4}, {0, 5}, {1, 4}, {1, 6}, {2, 5}, {2, 7}, {3, 6}, {3, 7}}
	waist := [][2]int{{0, 3}, {1, 3}, {2, 3}, {3, 4}, {4, 5}, {4, 6}, {4, 7}}
	for hands, want := range []int{8, 4, 3, 2, 2, 2, 2, 2} {
		checkBest(t, "crossed", 8, crossed, hands+1, want)
	}
	for hands, want := range []int{8, 6, 4, 4, 4, 4, 4, 4} {
		checkBest(t, "waist", 8, waist, hands+1, want)
	}
	for hands, want := range []int{8, 4, 3, 2, 2, 2, 2, 1} {
		checkBest(t, "no pairs", 8, nil, hands+1, want)
	}
	checkBest(t, "crossed, by all orders", 8, crossed, 3, fewestListed(8, crossed, 3))
}

// P3: pairs and orders are neither changed nor kept, what is beyond their lists does not matter, and results are new.
func TestMemory(t *testing.T) {
	allPairs, allOrder := [][2]int{{0, 2}, {2, 1}, {3, 1}, {1, 0}, {9, -1}}, []int{3, 2, 0, 1, 9}
	pairsBefore, orderBefore := slices.Clone(allPairs), slices.Clone(allOrder)
	pairs, order := allPairs[:3], allOrder[:4]
	for range 2 {
		checkLevels(t, "memory", 4, pairs, []int{3, 1, 2, 2})
		checkList(t, "memory", 4, pairs, 1, order, []int{1, 3, 2, 0})
		checkBest(t, "memory", 4, pairs, 2, 3)
		levels, _ := plan.Levels(4, pairs)
		steps, _ := plan.List(4, pairs, 1, order)
		clear(levels[:cap(levels)])
		clear(steps[:cap(steps)])
	}
	if !slices.Equal(allPairs, pairsBefore) || !slices.Equal(allOrder, orderBefore) {
		t.Errorf("the arguments changed: %v, %v", allPairs, allOrder)
	}
}
