package sample

import (
	"iter"
	"math"
	"slices"

	"codemason/api"
)

// AllPairs lists all pairs of different numbers below n, the smaller one first.
func AllPairs(n int) [][2]int {
	var pairs [][2]int
	for b := range n {
		for a := range b {
			pairs = append(pairs, [2]int{a, b})
		}
	}
	return pairs
}

// Subsets yields all lists of some of the pairs.
func Subsets(pairs [][2]int) iter.Seq[[][2]int] {
	return func(yield func(some [][2]int) bool) {
		for chosen := range 1 << len(pairs) {
			var some [][2]int
			for i, p := range pairs {
				if chosen>>i&1 != 0 {
					some = append(some, p)
				}
			}
			if !yield(some) {
				return
			}
		}
	}
}

// SomePairs lists each pair of different numbers below n with a chance of so many tenths, the smaller one first.
func SomePairs(pick func(int) int, n, tenths int) [][2]int {
	var pairs [][2]int
	for _, p := range AllPairs(n) {
		if pick(10) < tenths {
			pairs = append(pairs, p)
		}
	}
	return pairs
}

// MixedPairs lists the same pairs in any order, and some of them twice if there is room.
func MixedPairs(pick func(int) int, pairs [][2]int) [][2]int {
	var list [][2]int
	for i, p := range pairs {
		times := 1
		if len(list)+len(pairs)-i < api.MaxPairs {
			times += pick(2)
		}
		for range times {
			list = slices.Insert(list, pick(len(list)+1), p)
		}
	}
	return list
}

// BadPair is a list of pairs of things, or a number of things, that is invalid.
type BadPair struct {
	Name  string
	N     int
	Pairs [][2]int
	Want  api.Errno
}

// BadPairs lists invalid pairs of at most most things, and invalid numbers of things, which all functions of things with pairs of different ones reject.
func BadPairs(most int) []BadPair {
	return slices.Concat(largePairs(most), wrongPairs(most))
}

// largePairs lists invalid numbers of things or pairs, which count before all that is wrong in a pair.
func largePairs(most int) []BadPair {
	all := slices.Repeat(AllPairs(most), api.MaxPairs)[:api.MaxPairs]
	bad := []BadPair{
		{"too many pairs", most, append(slices.Clone(all), all[0]), api.ErrLarge},
		{"too many equal pairs", 2, slices.Repeat([][2]int{{0, 1}}, api.MaxPairs+1), api.ErrLarge},
		{"too many pairs before arg", most, append([][2]int{{-1, most}}, all...), api.ErrLarge},
		{"too many pairs before form", most, append([][2]int{{1, 1}}, all...), api.ErrLarge},
		{"many pairs", most, slices.Repeat(all, 3), api.ErrLarge},
		{"most pairs with a wrong one", most, append(slices.Clone(all[1:]), [2]int{0, most}), api.ErrArg},
		{"most pairs with a thing twice", most, append(slices.Clone(all[1:]), [2]int{most - 1, most - 1}), api.ErrForm},
	}
	for _, n := range append(Outside(most+1), 0) {
		bad = append(bad,
			BadPair{"n", n, nil, api.ErrLarge},
			BadPair{"n with a pair", n, [][2]int{{0, 1}}, api.ErrLarge},
			BadPair{"n before arg", n, [][2]int{{-1, math.MaxInt}}, api.ErrLarge},
			BadPair{"n before form", n, [][2]int{{0, 0}}, api.ErrLarge})
	}
	return bad
}

// wrongPairs lists pairs one of which has an element that is not a thing, or has the same element twice.
func wrongPairs(most int) []BadPair {
	var bad []BadPair
	for n := 1; n <= most; n++ {
		for place := range max(1, n-1) {
			with := func(name string, wrong [2]int, want api.Errno) {
				pairs := slices.Repeat([][2]int{{0, n - 1}}, max(1, n-1))
				pairs[place] = wrong
				bad = append(bad, BadPair{name, n, pairs, want})
			}
			for _, v := range Outside(n) {
				with("first element", [2]int{v, n - 1}, api.ErrArg)
				with("second element", [2]int{0, v}, api.ErrArg)
				with("equal elements that are no things", [2]int{v, v}, api.ErrArg)
			}
			if n > 1 {
				with("equal elements", [2]int{place, place}, api.ErrForm)
			}
		}
		bad = append(bad,
			BadPair{"only equal elements", n, [][2]int{{n - 1, n - 1}}, api.ErrForm},
			BadPair{"arg before form", n, [][2]int{{0, 0}, {0, n}}, api.ErrArg},
			BadPair{"arg of the first pair before form", n, [][2]int{{-1, 0}, {0, 0}}, api.ErrArg})
	}
	return bad
}
