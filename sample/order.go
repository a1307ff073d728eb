package sample

import (
	"iter"
	"slices"
)

// UpTo lists the numbers below n.
func UpTo(n int) []int {
	var list []int
	for v := range n {
		list = append(list, v)
	}
	return list
}

// Lists yields all lists of n numbers below count, in lexicographic order. A list is valid until the next one is yielded.
func Lists(n, count int) iter.Seq[[]int] {
	return func(yield func(list []int) bool) {
		list := make([]int, n)
		for {
			if !yield(list) {
				return
			}
			i := n - 1
			for i >= 0 && list[i] == count-1 {
				list[i] = 0
				i--
			}
			if i < 0 {
				return
			}
			list[i]++
		}
	}
}

// AllLists yields all lists of at most most of these elements. A list is valid until the next one is yielded.
func AllLists[E any](elements []E, most int) iter.Seq[[]E] {
	return func(yield func(list []E) bool) {
		var extend func(list []E) bool
		extend = func(list []E) bool {
			if !yield(list) {
				return false
			}
			if len(list) == most {
				return true
			}
			for _, e := range elements {
				if !extend(append(list, e)) {
					return false
				}
			}
			return true
		}
		extend(nil)
	}
}

// Orders yields all orders of the numbers below n, in lexicographic order. An order is valid until the next one is yielded.
func Orders(n int) iter.Seq[[]int] {
	return func(yield func(order []int) bool) {
		order := UpTo(n)
		for {
			if !yield(order) {
				return
			}
			i := n - 2
			for i >= 0 && order[i] > order[i+1] {
				i--
			}
			if i < 0 {
				return
			}
			k := n - 1
			for order[k] < order[i] {
				k--
			}
			order[i], order[k] = order[k], order[i]
			slices.Reverse(order[i+1:])
		}
	}
}

// Shuffled lists the numbers below n in any order.
func Shuffled(pick func(int) int, n int) []int {
	var list []int
	for v := range n {
		list = slices.Insert(list, pick(v+1), v)
	}
	return list
}

// BadOrders lists lists that do not contain every number below n exactly once.
func BadOrders(n int) [][]int {
	all := UpTo(n)
	bad := [][]int{nil, all[1:], all[:n-1], slices.Repeat(all, 100)}
	for place := range n {
		bad = append(bad, slices.Insert(slices.Clone(all), place, n-1))
		for _, wrong := range append(Outside(n), (place+1)%n) {
			if wrong != place {
				order := slices.Clone(all)
				order[place] = wrong
				bad = append(bad, order, append(slices.Clone(all), wrong))
			}
		}
	}
	return bad
}
