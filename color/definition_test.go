package color_test

import (
	"slices"

	"codemason/sample"
)

// conflict reports whether two things conflict.
func conflict(pairs [][2]int, a, b int) bool {
	return slices.Contains(pairs, [2]int{a, b}) || slices.Contains(pairs, [2]int{b, a})
}

// isColoring reports whether conflicting things have different colors.
func isColoring(pairs [][2]int, colors []int) bool {
	for _, p := range pairs {
		if colors[p[0]] == colors[p[1]] {
			return false
		}
	}
	return true
}

// smallestColoring searches all lists of colors, first those with few colors.
func smallestColoring(n int, pairs [][2]int) []int {
	for count := 1; count < n; count++ {
		for colors := range sample.Lists(n, count) {
			if isColoring(pairs, colors) {
				return slices.Clone(colors)
			}
		}
	}
	return sample.UpTo(n)
}

// firstColors gives each thing, in the given order, the first color that no conflicting thing before it has.
func firstColors(n int, pairs [][2]int, order []int) []int {
	colors := make([]int, n)
	for i, v := range order {
		usable := func(c int) bool {
			return !slices.ContainsFunc(order[:i], func(w int) bool { return conflict(pairs, v, w) && colors[w] == c })
		}
		for colors[v] = 0; !usable(colors[v]); colors[v]++ {
		}
	}
	return colors
}

// members lists the things of a set.
func members(set uint32) []int {
	var list []int
	for v := range 32 {
		if set>>v&1 != 0 {
			list = append(list, v)
		}
	}
	return list
}

// allConflict reports whether any two of the things conflict.
func allConflict(pairs [][2]int, things []int) bool {
	for i, a := range things {
		for _, b := range things[:i] {
			if !conflict(pairs, a, b) {
				return false
			}
		}
	}
	return true
}

// largestClique searches all sets.
func largestClique(n int, pairs [][2]int) uint32 {
	var best uint32
	for set := range uint32(1) << n {
		if things := members(set); len(things) > len(members(best)) && allConflict(pairs, things) {
			best = set
		}
	}
	return best
}

// countNear is the number of things of a list that conflict with v.
func countNear(pairs [][2]int, v int, things []int) int {
	count := 0
	for _, w := range things {
		if conflict(pairs, v, w) {
			count++
		}
	}
	return count
}

// peeled removes, each time, any thing that may be removed.
func peeled(pick func(int) int, n int, pairs [][2]int, k int) uint32 {
	left := sample.UpTo(n)
	for {
		var removable []int
		for i, v := range left {
			if countNear(pairs, v, left) < k {
				removable = append(removable, i)
			}
		}
		if len(removable) == 0 {
			break
		}
		i := removable[pick(len(removable))]
		left = slices.Delete(left, i, i+1)
	}
	var set uint32
	for _, v := range left {
		set |= 1 << v
	}
	return set
}

// isPerfect reports whether, for each thing of an order, any two of the later things that conflict with it conflict with each other.
func isPerfect(pairs [][2]int, order []int) bool {
	for i, v := range order {
		var later []int
		for _, w := range order[i+1:] {
			if conflict(pairs, v, w) {
				later = append(later, w)
			}
		}
		if !allConflict(pairs, later) {
			return false
		}
	}
	return true
}

// firstPerfect searches all orders: it returns nil if none of them is perfect.
func firstPerfect(n int, pairs [][2]int) []int {
	for order := range sample.Orders(n) {
		if isPerfect(pairs, order) {
			return slices.Clone(order)
		}
	}
	return nil
}

// mixed lists the same pairs in any order, each with any element first, and some of them twice if there is room.
func mixed(pick func(int) int, pairs [][2]int) [][2]int {
	list := sample.MixedPairs(pick, pairs)
	for i, p := range list {
		if pick(2) == 0 {
			list[i] = [2]int{p[1], p[0]}
		}
	}
	return list
}

// perfectPairs lists pairs of n things that have a perfect elimination order: the reverse of the order in which things are added, each of which conflicts with things that conflict with each other.
func perfectPairs(pick func(int) int, n, tenths int) [][2]int {
	var pairs [][2]int
	things := sample.Shuffled(pick, n)
	for i, v := range things {
		var near []int
		for _, k := range sample.Shuffled(pick, i) {
			w := things[k]
			if pick(10) < tenths && allConflict(pairs, append(near, w)) {
				near = append(near, w)
			}
		}
		for _, w := range near {
			pairs = append(pairs, [2]int{v, w})
		}
	}
	return pairs
}
