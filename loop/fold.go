package loop

import (
	"math/bits"

	"codemason/api"
	"codemason/way"
)

// Fold returns the number of nodes that remain when edges from a node to itself are removed (T1), and nodes are merged into their only predecessors (T2), as long as possible.
func Fold(next [][]int) (int, api.Errno) {
	left, e := way.Reach(next)
	if e != api.OK {
		return 0, e
	}
	before := sources(next)
	for merged := true; merged; {
		merged = false
		// The order does not matter: it changes neither the number of nodes that remain nor how they are connected.
		for v := range before {
			before[v] &^= 1 << v
			if v > 0 && bits.OnesCount32(before[v]) == 1 {
				left &^= 1 << v
				merge(before, v)
				merged = true
			}
		}
	}
	return bits.OnesCount32(left), api.OK
}

// merge replaces node v, wherever an edge leads from it, by its only predecessor.
func merge(before []uint32, v int) {
	into := before[v]
	before[v] = 0
	for w, sources := range before {
		if way.Has(sources, v) {
			before[w] = sources&^(1<<v) | into
		}
	}
}
