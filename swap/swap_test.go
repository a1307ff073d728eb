package swap_test

import (
	"slices"
	"testing"

	"codemason/api"
	"codemason/sample"
	"codemason/swap"
)

// badMoves has moves that are invalid.
type badMoves struct {
	name string
	regs int
	l    []api.Move
	want api.Errno
}

// largeMoves lists invalid numbers of registers or moves, which count before all that is wrong in a move.
func largeMoves() []badMoves {
	keep, wrong := api.Move{To: 0, From: 0}, api.Move{To: -1, From: -1}
	most := slices.Repeat([]api.Move{keep}, api.MaxMoves)
	bad := []badMoves{
		{"too many moves before form", 8, append(slices.Clone(most), keep), api.ErrLarge},
		{"too many moves before arg", 8, append(slices.Clone(most), wrong), api.ErrLarge},
		{"many moves", 8, slices.Repeat(most, 3), api.ErrLarge},
		{"most moves before form", 8, most, api.ErrForm},
	}
	for _, regs := range append(sample.Outside(api.MaxRegs+1), 0) {
		bad = append(bad,
			badMoves{"regs", regs, nil, api.ErrLarge},
			badMoves{"regs with a move", regs, []api.Move{keep}, api.ErrLarge},
			badMoves{"regs before form", regs, []api.Move{keep, keep}, api.ErrLarge},
			badMoves{"regs before arg", regs, []api.Move{wrong}, api.ErrLarge})
	}
	return bad
}

// wrongMoves lists moves one of which has a number that is not a register: the temporary register is none either.
func wrongMoves() []badMoves {
	var bad []badMoves
	for regs := 1; regs <= api.MaxRegs; regs++ {
		for place := range regs {
			with := func(name string, wrong api.Move) {
				l := rotation(regs)
				l[place] = wrong
				bad = append(bad, badMoves{name, regs, l, api.ErrArg})
			}
			for _, r := range sample.Outside(regs) {
				with("To", api.Move{To: r, From: 0})
				with("From", api.Move{To: place, From: r})
				with("To and From", api.Move{To: r, From: r})
			}
		}
	}
	return bad
}

// repeatedMoves lists moves two of which have the same To.
func repeatedMoves() []badMoves {
	var bad []badMoves
	for regs := 1; regs <= api.MaxRegs; regs++ {
		for later := 1; later < api.MaxMoves; later++ {
			for earlier := range min(later, regs) {
				for from := range regs {
					var l []api.Move
					for place := range min(later, regs) {
						l = append(l, api.Move{To: place, From: regs - 1})
					}
					l = append(l, api.Move{To: earlier, From: from})
					bad = append(bad, badMoves{"the same To", regs, l, api.ErrForm})
				}
			}
		}
	}
	keep := api.Move{To: 1, From: 1}
	return append(bad,
		badMoves{"equal moves", 2, []api.Move{{To: 1, From: 0}, {To: 1, From: 0}}, api.ErrForm},
		badMoves{"registers that keep their values", 2, []api.Move{keep, keep}, api.ErrForm},
		badMoves{"To before form", 2, []api.Move{keep, keep, {To: 2, From: 0}}, api.ErrArg},
		badMoves{"From before form", 2, []api.Move{keep, keep, {To: 0, From: -1}}, api.ErrArg},
		badMoves{"arg of the first move before form", 2, []api.Move{{To: 0, From: 2}, keep, keep}, api.ErrArg},
		badMoves{"the same To, which is not a register", 2, []api.Move{{To: 2, From: 0}, {To: 2, From: 0}}, api.ErrArg})
}

// rotation lists moves of each register to the next one.
func rotation(regs int) []api.Move {
	var l []api.Move
	for r := range regs {
		l = append(l, api.Move{To: (r + 1) % regs, From: r})
	}
	return l
}

// N1: the errors and their order.
func TestInvalidMoves(t *testing.T) {
	for _, c := range slices.Concat(largeMoves(), wrongMoves(), repeatedMoves()) {
		if o, e := swap.Order(c.regs, c.l); len(o) != 0 || e != c.want {
			t.Errorf("%s: Order(%d, %v) = %v, %v, want an empty list, %v", c.name, c.regs, c.l, o, e, c.want)
		}
		if n, e := swap.Rounds(c.regs, c.l); n != 0 || e != c.want {
			t.Errorf("%s: Rounds(%d, %v) = %d, %v, want 0, %v", c.name, c.regs, c.l, n, e, c.want)
		}
	}
}

// N1: moves whose results are easily seen, the document's example first.
func TestMoves(t *testing.T) {
	for _, c := range []struct {
		name          string
		regs          int
		l             []api.Move
		moves, rounds int
	}{
		{"example", 2, []api.Move{{To: 0, From: 1}, {To: 1, From: 0}}, 3, 1},
		{"nothing", 1, nil, 0, 0},
		{"nothing of most registers", 8, []api.Move{}, 0, 0},
		{"a register that keeps its value", 1, []api.Move{{To: 0, From: 0}}, 0, 0},
		{"all registers keep their values", 3, []api.Move{{To: 2, From: 2}, {To: 0, From: 0}, {To: 1, From: 1}}, 0, 0},
		{"one move", 2, []api.Move{{To: 0, From: 1}}, 1, 0},
		{"to all others", 4, []api.Move{{To: 0, From: 2}, {To: 1, From: 2}, {To: 3, From: 2}}, 3, 0},
		{"a chain whose order is wrong", 3, []api.Move{{To: 1, From: 0}, {To: 2, From: 1}}, 2, 0},
		{"a chain whose order is right", 3, []api.Move{{To: 2, From: 1}, {To: 1, From: 0}}, 2, 0},
		{"three registers in a circle", 3, rotation(3), 4, 1},
		{"most registers in a circle", 8, rotation(8), 9, 1},
		{"most cycles", 8, []api.Move{
			{To: 0, From: 1}, {To: 1, From: 0}, {To: 2, From: 3}, {To: 3, From: 2},
			{To: 4, From: 5}, {To: 5, From: 4}, {To: 6, From: 7}, {To: 7, From: 6}}, 12, 4},
		{"a circle that is copied from is no cycle", 3, []api.Move{{To: 0, From: 1}, {To: 1, From: 0}, {To: 2, From: 0}}, 3, 0},
		{"a long circle that is copied from", 8, append(rotation(7), api.Move{To: 7, From: 3}), 8, 0},
		{"a circle that is copied from by way of another register", 4,
			[]api.Move{{To: 0, From: 1}, {To: 1, From: 0}, {To: 3, From: 2}, {To: 2, From: 0}}, 4, 0},
		{"a cycle, and a circle that is copied from twice", 6, []api.Move{
			{To: 0, From: 1}, {To: 1, From: 0}, {To: 2, From: 3}, {To: 3, From: 2}, {To: 4, From: 2}, {To: 5, From: 3}}, 7, 1},
		{"a cycle beside what keeps its value", 4, []api.Move{{To: 3, From: 1}, {To: 1, From: 3}, {To: 2, From: 2}}, 3, 1},
		{"a cycle beside a register that keeps and gives its value", 4,
			[]api.Move{{To: 2, From: 1}, {To: 1, From: 2}, {To: 3, From: 0}, {To: 0, From: 0}}, 4, 1},
	} {
		o, e := swap.Order(c.regs, c.l)
		if len(o) != c.moves || e != api.OK {
			t.Errorf("%s: Order(%d, %v) = %v, %v, want %d moves", c.name, c.regs, c.l, o, e, c.moves)
		}
		if n, e := swap.Rounds(c.regs, c.l); n != c.rounds || e != api.OK {
			t.Errorf("%s: Rounds(%d, %v) = %d, %v, want %d", c.name, c.regs, c.l, n, e, c.rounds)
		}
	}
}

// N1: all ways of moving a few registers, compared with the fewest moves that any order of moves needs.
func TestFewRegisters(t *testing.T) {
	pick := sample.Numbers()
	for regs := 1; regs <= 5; regs++ {
		fewest := fewestMoves(regs)
		for from := range allSources(regs) {
			checkMoves(t, regs, movesFor(pick, from), from, fewest[number(from, regs+1)])
		}
	}
}

// N1: many ways of moving more registers, some of which have many cycles.
func TestManyRegisters(t *testing.T) {
	pick := sample.Numbers()
	for regs := 6; regs <= api.MaxRegs; regs++ {
		for range 20000 {
			free, permuted := make([]int, regs), permutation(pick, regs)
			for r := range free {
				free[r] = pick(regs)
			}
			nearly := slices.Clone(permuted)
			nearly[pick(regs)] = pick(regs)
			for _, from := range [][]int{free, permuted, nearly} {
				checkMoves(t, regs, movesFor(pick, from), from, changes(from)+len(cycles(from)))
			}
		}
	}
}

// N1: moves are neither changed nor kept, and what is beyond their list does not matter.
func TestMemory(t *testing.T) {
	all := []api.Move{{To: 0, From: 1}, {To: 2, From: 0}, {To: 1, From: 2}, {To: 3, From: 0}, {To: 3, From: 9}}
	before := slices.Clone(all)
	// The first moves are a cycle, and the next one copies from it.
	for length, rounds := range map[int]int{0: 0, 1: 0, 2: 0, 3: 1, 4: 0} {
		l := all[:length]
		first, e := swap.Order(4, l)
		if e != api.OK {
			t.Fatalf("Order(4, %v): %v", l, e)
		}
		want := slices.Clone(first)
		first = first[:cap(first)]
		for i := range first {
			first[i] = api.Move{To: 99, From: 99}
		}
		if n, e := swap.Rounds(4, l); n != rounds || e != api.OK {
			t.Errorf("Rounds(4, %v) = %d, %v, want %d", l, n, e, rounds)
		}
		if again, e := swap.Order(4, l); !slices.Equal(again, want) || e != api.OK {
			t.Errorf("Order(4, %v) = %v, %v after its result %v was overwritten", l, again, e, want)
		}
		if !slices.Equal(all, before) {
			t.Fatalf("the moves are %v after calls for %d of them, not %v", all, length, before)
		}
	}
}

// checkMoves compares the results for moves by which each register gets the value of its element of from.
func checkMoves(t *testing.T, regs int, l []api.Move, from []int, fewest int) {
	t.Helper()
	o, e := swap.Order(regs, l)
	if e != api.OK || len(o) != fewest {
		t.Fatalf("Order(%d, %v) = %v, %v, want %d moves", regs, l, o, e, fewest)
	}
	vals := initial(regs)
	for _, m := range o {
		if m.To < 0 || m.To > regs || m.From < 0 || m.From > regs {
			t.Fatalf("Order(%d, %v) = %v with another register", regs, l, o)
		}
		vals[m.To] = vals[m.From]
	}
	if !slices.Equal(vals[:regs], from) {
		t.Fatalf("Order(%d, %v) = %v, by which the registers get the values of %v, not of %v", regs, l, o, vals[:regs], from)
	}
	if n, e := swap.Rounds(regs, l); n != len(cycles(from)) || e != api.OK {
		t.Fatalf("Rounds(%d, %v) = %d, %v, want %d", regs, l, n, e, len(cycles(from)))
	}
}

// initial lists a value of its own for each of so many registers, and for the temporary one.
func initial(regs int) []int {
	var vals []int
	for r := range regs + 1 {
		vals = append(vals, r)
	}
	return vals
}

// number is the number that has these digits.
func number(digits []int, base int) int {
	n := 0
	for _, d := range digits {
		n = n*base + d
	}
	return n
}
