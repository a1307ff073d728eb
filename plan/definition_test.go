package plan_test

import (
	"slices"

	"codemason/sample"
)

// isAcyclic reports whether the tasks can be ordered so that each precedes those that must be executed later.
func isAcyclic(n int, pairs [][2]int) bool {
	for order := range sample.Orders(n) {
		wrong := func(p [2]int) bool { return slices.Index(order, p[0]) >= slices.Index(order, p[1]) }
		if !slices.ContainsFunc(pairs, wrong) {
			return true
		}
	}
	return false
}

// longestChain searches all chains of tasks that start with task v.
func longestChain(pairs [][2]int, v int) int {
	longest := 0
	for _, p := range pairs {
		if p[0] == v {
			longest = max(longest, longestChain(pairs, p[1]))
		}
	}
	return 1 + longest
}

// levelsOf is the number of tasks on the longest chain that starts with each task.
func levelsOf(n int, pairs [][2]int) []int {
	levels := make([]int, n)
	for v := range levels {
		levels[v] = longestChain(pairs, v)
	}
	return levels
}

// listed executes tasks by the document's definition: what is left of order is searched for each hand.
func listed(n int, pairs [][2]int, hands int, order []int) []int {
	steps := slices.Repeat([]int{-1}, n)
	left := slices.Clone(order)
	for step := 0; len(left) > 0; step++ {
		waits := func(v int) bool {
			return slices.ContainsFunc(pairs, func(p [2]int) bool {
				return p[1] == v && (steps[p[0]] == -1 || steps[p[0]] == step)
			})
		}
		for range hands {
			i := slices.IndexFunc(left, func(v int) bool { return !waits(v) })
			if i < 0 {
				break
			}
			steps[left[i]] = step
			left = slices.Delete(left, i, i+1)
		}
	}
	return steps
}

// isPlan reports whether tasks can be executed in these time steps.
func isPlan(pairs [][2]int, hands int, steps []int) bool {
	for _, p := range pairs {
		if steps[p[0]] >= steps[p[1]] {
			return false
		}
	}
	for _, step := range steps {
		count := 0
		for _, other := range steps {
			if other == step {
				count++
			}
		}
		if count > hands {
			return false
		}
	}
	return true
}

// fewestSteps searches all lists of time steps, first those with few of them.
func fewestSteps(n int, pairs [][2]int, hands int) int {
	for count := 1; count < n; count++ {
		for steps := range sample.Lists(n, count) {
			if isPlan(pairs, hands, steps) {
				return count
			}
		}
	}
	return n
}

// fewestListed lists tasks in all orders: as each takes one time step, one of them is best.
func fewestListed(n int, pairs [][2]int, hands int) int {
	fewest := n
	for order := range sample.Orders(n) {
		fewest = min(fewest, slices.Max(listed(n, pairs, hands, order))+1)
	}
	return fewest
}

// renamed lists the same pairs of tasks that have other numbers.
func renamed(pairs [][2]int, names []int) [][2]int {
	var list [][2]int
	for _, p := range pairs {
		list = append(list, [2]int{names[p[0]], names[p[1]]})
	}
	return list
}
