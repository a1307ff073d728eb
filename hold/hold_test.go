package hold_test

import (
	"math"
	"slices"
	"testing"

	"codemason/api"
	"codemason/hold"
	"codemason/sample"
)

// things lists numbers that are given to things: any number can be one.
func things() []int {
	return []int{7, 0, -1, math.MinInt, math.MaxInt, 256, 1, 8, 1 << 32, -8, 2, 3, 4, 5, 6, 9, 10, 11, 12, 13}
}

// P1: the common errors, which come before those of what is to be evicted.
func TestInvalidArguments(t *testing.T) {
	check := func(refs []int, places int) {
		t.Helper()
		for name, f := range map[string]func([]int, int) (int, api.Errno){"Min": hold.Min, "Lru": hold.Lru, "Fifo": hold.Fifo} {
			if n, e := f(refs, places); n != 0 || e != api.ErrLarge {
				t.Errorf("%s(%v, %d) = %d, %v, want 0, %v", name, refs, places, n, e, api.ErrLarge)
			}
		}
		for _, out := range [][]int{nil, {-9}, refs, slices.Repeat([]int{1}, 50)} {
			if n, e := hold.Play(refs, places, out); n != 0 || e != api.ErrLarge {
				t.Errorf("Play(%v, %d, %v) = %d, %v, want 0, %v", refs, places, out, n, e, api.ErrLarge)
			}
		}
	}
	most := things()[:api.MaxRefs]
	for places := 1; places <= api.MaxRegs; places++ {
		check(append(most, 99), places)
		check(slices.Repeat([]int{1}, api.MaxRefs+1), places)
		check(slices.Repeat(most, 10), places)
	}
	for _, places := range append(sample.Outside(api.MaxRegs+1), 0) {
		for _, refs := range [][]int{nil, {1}, {1, 2, 1}, most, append(most, 99)} {
			check(refs, places)
		}
	}
}

// P1: things to evict that are missing, or not in the cache.
func TestInvalidPlay(t *testing.T) {
	for _, c := range []struct {
		name   string
		refs   []int
		places int
		out    []int
	}{
		{"nothing", []int{1, 2}, 1, nil},
		{"the empty list", []int{1, 2}, 1, []int{}},
		{"too few at the last reference", []int{1, 2, 3}, 1, []int{1}},
		{"too few before hits", []int{1, 2, 2, 2}, 1, nil},
		{"too few of many", []int{1, 2, 3, 4, 5, 6}, 2, []int{1, 2, 3}},
		{"never asked for", []int{1, 2}, 1, []int{9}},
		{"zero", []int{1, 2}, 1, []int{0}},
		{"asked for later", []int{1, 2, 3}, 1, []int{3, 1, 2}},
		{"asked for now", []int{1, 2, 3}, 2, []int{3, 1}},
		{"evicted before", []int{1, 2, 3, 4}, 2, []int{1, 1}},
		{"the last one", []int{1, 2, 3, 4}, 2, []int{1, 4}},
		{"only the next one would do", []int{1, 2}, 1, []int{9, 1}},
		{"only beyond the list", []int{1, 2, 3, 2}, 2, []int{2, 3}[:1]},
		{"all places", []int{1, 2, 3, 4, 5, 6, 7, 8, 9}, 8, []int{9}},
	} {
		if n, e := hold.Play(c.refs, c.places, c.out); n != 0 || e != api.ErrNone {
			t.Errorf("%s: Play(%v, %d, %v) = %d, %v, want 0, %v", c.name, c.refs, c.places, c.out, n, e, api.ErrNone)
		}
	}
}

// P1: references whose misses are easily seen.
func TestRefs(t *testing.T) {
	classic := []int{1, 2, 3, 4, 1, 2, 5, 1, 2, 3, 4, 5}
	for _, c := range []struct {
		name           string
		refs           []int
		places         int
		min, lru, fifo int
	}{
		{"nothing", nil, 1, 0, 0, 0},
		{"nothing in many places", []int{}, 8, 0, 0, 0},
		{"one thing", []int{5}, 1, 1, 1, 1},
		{"one thing, again and again", slices.Repeat([]int{5}, api.MaxRefs), 1, 1, 1, 1},
		{"the number 0", []int{0, 0}, 2, 1, 1, 1},
		{"the greatest numbers", []int{math.MinInt, math.MaxInt, -1, math.MinInt}, 3, 3, 3, 3},
		{"all different", things()[:api.MaxRefs], 8, 20, 20, 20},
		{"two by turns in one place", []int{1, 2, 1, 2}, 1, 4, 4, 4},
		{"two by turns in two places", []int{1, 2, 1, 2}, 2, 2, 2, 2},
		{"as many as places, by turns", slices.Repeat([]int{1, 2, 3, 4, 5, 6, 7, 8}, 2), 8, 8, 8, 8},
		{"one more than places, by turns", slices.Repeat([]int{1, 2, 3, 4, 5, 6, 7, 8, 9}, 2), 8, 10, 18, 18},
		{"a hit renews for Lru alone", []int{1, 2, 1, 3, 1}, 2, 3, 3, 4},
		{"a hit renews the wrong thing", []int{1, 2, 1, 3, 2}, 2, 3, 4, 3},
		{"inserted again", []int{1, 2, 3, 1, 4, 1}, 2, 4, 5, 5},
		{"the classic references in three places", classic, 3, 7, 10, 9},
		{"the classic references in four places, where Fifo is worse", classic, 4, 6, 8, 10},
	} {
		checkMisses(t, c.name, c.refs, c.places, c.min, c.lru, c.fifo)
	}
}

// P1: things to evict whose misses are easily seen.
func TestPlay(t *testing.T) {
	for _, c := range []struct {
		name   string
		refs   []int
		places int
		out    []int
		want   int
	}{
		{"nothing", nil, 1, nil, 0},
		{"nothing to evict", []int{1, 2, 1}, 2, nil, 2},
		{"what is not used does not matter", []int{1, 2, 1}, 2, []int{9, 9, 9}, 2},
		{"one", []int{1, 2}, 1, []int{1}, 2},
		{"what is left over does not matter", []int{1, 2}, 1, []int{1, 9, -1}, 2},
		{"more than there are references", []int{1, 2, 1}, 1, slices.Repeat([]int{1, 2}, 100), 3},
		{"a hit evicts nothing", []int{1, 2, 2, 1, 3, 3, 1}, 2, []int{2}, 3},
		{"the first one", []int{1, 2, 3, 2, 1}, 2, []int{1, 2}, 4},
		{"the last one", []int{1, 2, 3, 2, 1}, 2, []int{2, 3}, 4},
		{"the one that is evicted again", []int{1, 2, 1, 2, 1}, 1, []int{1, 2, 1, 2}, 5},
		{"the greatest numbers", []int{math.MinInt, math.MaxInt, 0}, 1, []int{math.MinInt, math.MaxInt}, 3},
	} {
		if n, e := hold.Play(c.refs, c.places, c.out); n != c.want || e != api.OK {
			t.Errorf("%s: Play(%v, %d, %v) = %d, %v, want %d", c.name, c.refs, c.places, c.out, n, e, c.want)
		}
	}
}

// P1: the document's example: with one place, every reference that differs from the preceding one is a miss.
func TestOnePlace(t *testing.T) {
	for refs := range sample.AllLists(things()[:3], 7) {
		inserted := slices.Compact(slices.Clone(refs))
		want := len(inserted)
		checkMisses(t, "one place", refs, 1, want, want, want)
		if n, e := hold.Play(refs, 1, inserted); n != want || e != api.OK {
			t.Fatalf("Play(%v, 1, %v) = %d, %v, want %d", refs, inserted, n, e, want)
		}
	}
}

// P1: all short lists of references.
func TestShortRefs(t *testing.T) {
	for refs := range sample.AllLists(things()[:5], 6) {
		for places := 1; places <= 5; places++ {
			checkDefinitions(t, refs, places)
		}
	}
}

// P1: all ways to evict, for all short lists of references: the best one has as few misses as possible.
func TestAllPlays(t *testing.T) {
	all := things()[:4]
	for refs := range sample.AllLists(all, 5) {
		for places := 1; places <= 4; places++ {
			least := math.MaxInt
			for out := range sample.AllLists(all, max(0, len(refs)-places)) {
				want, wrong := missesOfPlay(refs, places, out)
				n, e := hold.Play(refs, places, out)
				if n != want || e != wrong {
					t.Fatalf("Play(%v, %d, %v) = %d, %v, want %d, %v", refs, places, out, n, e, want, wrong)
				}
				if e == api.OK {
					least = min(least, n)
				}
			}
			if n, e := hold.Min(refs, places); n != least || e != api.OK {
				t.Fatalf("Min(%v, %d) = %d, %v, want %d", refs, places, n, e, least)
			}
		}
	}
}

// P1: longer references to few things or many, by a fixed rule, for all numbers of places.
func TestLongRefs(t *testing.T) {
	pick := sample.Numbers()
	for places := 1; places <= api.MaxRegs; places++ {
		for count := 2; count <= 13; count++ {
			for range 20 {
				refs := make([]int, api.MaxRefs-pick(5))
				for i := range refs {
					refs[i] = things()[pick(count)]
				}
				checkDefinitions(t, refs, places)
				checkPlay(t, pick, refs, places)
			}
		}
	}
}

// P3: references and things to evict are neither changed nor kept, and what is beyond their lists does not matter.
func TestMemory(t *testing.T) {
	allRefs, allOut := []int{1, 2, 3, 2, 4, 1, 5, 6}, []int{1, 3, 2, 4, 5}
	refsBefore, outBefore := slices.Clone(allRefs), slices.Clone(allOut)
	refs, out := allRefs[:6], allOut[:3]
	for range 2 {
		checkMisses(t, "memory", refs, 2, 5, 5, 5)
		if n, e := hold.Play(refs, 2, out); n != 5 || e != api.OK {
			t.Errorf("Play(%v, 2, %v) = %d, %v, want 5", refs, out, n, e)
		}
		if n, e := hold.Play(refs, 2, out[:2]); n != 0 || e != api.ErrNone {
			t.Errorf("Play(%v, 2, %v) = %d, %v, want 0, %v", refs, out[:2], n, e, api.ErrNone)
		}
		if n, e := hold.Play(refs[:0], 2, out[:0]); n != 0 || e != api.OK {
			t.Errorf("Play(%v, 2, %v) = %d, %v, want 0", refs[:0], out[:0], n, e)
		}
	}
	if !slices.Equal(allRefs, refsBefore) || !slices.Equal(allOut, outBefore) {
		t.Errorf("the arguments changed: %v, %v", allRefs, allOut)
	}
}

// checkMisses compares the misses of the functions that choose themselves what they evict.
func checkMisses(t *testing.T, name string, refs []int, places, least, lru, fifo int) {
	t.Helper()
	if n, e := hold.Min(refs, places); n != least || e != api.OK {
		t.Fatalf("%s: Min(%v, %d) = %d, %v, want %d", name, refs, places, n, e, least)
	}
	if n, e := hold.Lru(refs, places); n != lru || e != api.OK {
		t.Fatalf("%s: Lru(%v, %d) = %d, %v, want %d", name, refs, places, n, e, lru)
	}
	if n, e := hold.Fifo(refs, places); n != fifo || e != api.OK {
		t.Fatalf("%s: Fifo(%v, %d) = %d, %v, want %d", name, refs, places, n, e, fifo)
	}
}

// checkDefinitions compares them with the document's definitions.
func checkDefinitions(t *testing.T, refs []int, places int) {
	t.Helper()
	checkMisses(t, "definition", refs, places,
		fewestMisses(refs, places), missesOfLru(refs, places), missesOfFifo(refs, places))
}

// checkPlay evicts any things of the cache, and then spoils one of them, or drops the last ones.
func checkPlay(t *testing.T, pick func(int) int, refs []int, places int) {
	t.Helper()
	var cache, out []int
	for _, thing := range refs {
		if slices.Contains(cache, thing) {
			continue
		}
		if len(cache) == places {
			i := pick(places)
			out = append(out, cache[i])
			cache = slices.Delete(cache, i, i+1)
		}
		cache = append(cache, thing)
	}
	outs := [][]int{out, append(slices.Clone(out), things()[pick(20)])}
	if len(out) > 0 {
		wrong := slices.Clone(out)
		wrong[pick(len(out))] = things()[pick(20)]
		outs = append(outs, wrong, out[:pick(len(out))])
	}
	for _, out := range outs {
		want, wrong := missesOfPlay(refs, places, out)
		if n, e := hold.Play(refs, places, out); n != want || e != wrong {
			t.Fatalf("Play(%v, %d, %v) = %d, %v, want %d, %v", refs, places, out, n, e, want, wrong)
		}
	}
}
