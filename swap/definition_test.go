package swap_test

import (
	"iter"
	"slices"

	"codemason/api"
)

// changes is the number of registers that do not keep their values.
func changes(from []int) int {
	count := 0
	for r, f := range from {
		if f != r {
			count++
		}
	}
	return count
}

// cycles lists the sets of registers that are cycles by the document's definition.
func cycles(from []int) []uint32 {
	var all []uint32
	for set := range uint32(1) << len(from) {
		if isCycle(from, set) {
			all = append(all, set)
		}
	}
	return all
}

// isCycle reports whether the registers of a set are a cycle.
func isCycle(from []int, set uint32) bool {
	has := func(r int) bool { return set>>r&1 != 0 }
	var members []int
	for r, f := range from {
		if has(r) {
			members = append(members, r)
		} else if has(f) {
			return false
		}
	}
	if len(members) < 2 {
		return false
	}
	// Backwards from any register, each one must come once before the first one comes again.
	seen, r := uint32(0), members[0]
	for range members {
		seen |= 1 << r
		r = from[r]
	}
	return seen == set && r == members[0]
}

// fewestMoves returns, for what the registers can have, the least number of moves that brings it about, whatever the temporary register has then.
func fewestMoves(regs int) map[int]int {
	fewest := map[int]int{}
	known := map[int]bool{number(initial(regs), regs+1): true}
	level := [][]int{initial(regs)}
	for moves := 0; len(level) > 0; moves++ {
		var following [][]int
		for _, vals := range level {
			key := number(vals[:regs], regs+1)
			if _, is := fewest[key]; !is {
				fewest[key] = moves
			}
			for after := range afterOneMove(vals) {
				if n := number(after, regs+1); !known[n] {
					known[n] = true
					following = append(following, after)
				}
			}
		}
		level = following
	}
	return fewest
}

// afterOneMove yields what the registers have after each move that there is.
func afterOneMove(vals []int) iter.Seq[[]int] {
	return func(yield func([]int) bool) {
		for to := range vals {
			for from := range vals {
				after := slices.Clone(vals)
				after[to] = vals[from]
				if !yield(after) {
					return
				}
			}
		}
	}
}

// allSources yields all lists that tell whose value each of so many registers gets.
func allSources(regs int) iter.Seq[[]int] {
	return func(yield func([]int) bool) {
		var extend func(from []int) bool
		extend = func(from []int) bool {
			if len(from) == regs {
				return yield(from)
			}
			for r := range regs {
				if !extend(append(from, r)) {
					return false
				}
			}
			return true
		}
		extend(nil)
	}
}

// permutation lists so many registers in any order.
func permutation(pick func(int) int, regs int) []int {
	var list []int
	for r := range regs {
		list = slices.Insert(list, pick(r+1), r)
	}
	return list
}

// movesFor lists, in any order, moves by which each register gets the value of its element of from. Only some of the registers that keep their values have a move.
func movesFor(pick func(int) int, from []int) []api.Move {
	var l []api.Move
	for r, f := range from {
		if f != r || pick(2) == 0 {
			l = slices.Insert(l, pick(len(l)+1), api.Move{To: r, From: f})
		}
	}
	return l
}
