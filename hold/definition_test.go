package hold_test

import (
	"iter"
	"math"
	"slices"

	"codemason/api"
)

// fewestMisses tries, at each miss that requires an eviction, each thing in the cache.
func fewestMisses(refs []int, places int) int {
	// The least number of misses, for each set of positions of first references to things that can be in the cache.
	fewest := map[uint32]int{0: 0}
	for _, thing := range refs {
		bit := uint32(1) << slices.Index(refs, thing)
		following := map[uint32]int{}
		for set, misses := range fewest {
			for next := range afterAsking(set, bit, places) {
				count := misses
				if next != set {
					count++
				}
				if known, is := following[next]; !is || count < known {
					following[next] = count
				}
			}
		}
		fewest = following
	}
	least := math.MaxInt
	for _, misses := range fewest {
		least = min(least, misses)
	}
	return least
}

// afterAsking yields all sets that can be in the cache after one more thing was asked for.
func afterAsking(set, bit uint32, places int) iter.Seq[uint32] {
	return func(yield func(uint32) bool) {
		count := 0
		for left := set; left != 0; left &= left - 1 {
			count++
		}
		if set&bit != 0 || count < places {
			yield(set | bit)
			return
		}
		for left := set; left != 0; left &= left - 1 {
			if !yield(set&^(left&-left) | bit) {
				return
			}
		}
	}
}

// missesOfLru counts the references between which and the last one to the same thing there are too many other things, as then these are asked for less long ago.
func missesOfLru(refs []int, places int) int {
	count := 0
	for now, thing := range refs {
		others := map[int]bool{}
		i := now - 1
		for ; i >= 0 && refs[i] != thing; i-- {
			others[refs[i]] = true
		}
		if i < 0 || len(others) >= places {
			count++
		}
	}
	return count
}

// missesOfFifo counts the references to things that were never inserted, or behind whose last insertion there are too many others.
func missesOfFifo(refs []int, places int) int {
	var inserted []int
	for _, thing := range refs {
		recent := inserted[max(0, len(inserted)-places):]
		if !slices.Contains(recent, thing) {
			inserted = append(inserted, thing)
		}
	}
	return len(inserted)
}

// missesOfPlay evicts the elements of out.
func missesOfPlay(refs []int, places int, out []int) (int, api.Errno) {
	in := map[int]bool{}
	count := 0
	for _, thing := range refs {
		if in[thing] {
			continue
		}
		count++
		if len(in) == places {
			if len(out) == 0 || !in[out[0]] {
				return 0, api.ErrNone
			}
			delete(in, out[0])
			out = out[1:]
		}
		in[thing] = true
	}
	return count, api.OK
}
