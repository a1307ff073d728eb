package point_test

import (
	"iter"

	"codemason/api"
	"codemason/sample"
)

// relation tells of each two variables whether it holds from the first one to the second one.
type relation [][]bool

// newRelation is a relation that does not hold for any variables.
func newRelation(vars int) relation {
	r := make(relation, vars)
	for v := range r {
		r[v] = make([]bool, vars)
	}
	return r
}

// add makes the relation hold from a to b, and reports whether it did not.
func (r relation) add(a, b int) bool {
	is := r[a][b]
	r[a][b] = true
	return !is
}

// sets lists, for each variable, the set of those to which the relation holds from it.
func (r relation) sets() []uint32 {
	sets := make([]uint32, len(r))
	for a, row := range r {
		for b, is := range row {
			if is {
				sets[a] |= 1 << b
			}
		}
	}
	return sets
}

// behind is what the variables point to after a script, by the document's definition: one that points to none is not in the map.
func behind(l []api.Point, script []int) map[int]int {
	to := map[int]int{}
	set := func(v, from int) {
		if target, is := to[from]; is {
			to[v] = target
		} else {
			delete(to, v)
		}
	}
	for _, n := range script {
		s := l[n]
		source, hasSource := to[s.From]
		target, hasTarget := to[s.To]
		switch {
		case s.Kind == api.PAddr:
			to[s.To] = s.From
		case s.Kind == api.PCopy:
			set(s.To, s.From)
		case s.Kind == api.PLoad && hasSource:
			set(s.To, source)
		case s.Kind == api.PStore && hasTarget:
			set(target, s.From)
		}
	}
	return to
}

// asList lists what each variable points to, or -1.
func asList(vars int, to map[int]int) []int {
	list := make([]int, vars)
	for v := range list {
		list[v] = -1
		if target, is := to[v]; is {
			list[v] = target
		}
	}
	return list
}

// has reports whether v is in a set.
func has(set uint32, v int) bool { return set>>v&1 != 0 }

// covers reports whether a set includes another one.
func covers(set, other uint32) bool { return other&^set == 0 }

// obeys reports whether sets have the property that the document demands for a statement.
func obeys(sets []uint32, s api.Point) bool {
	switch s.Kind {
	case api.PAddr:
		return has(sets[s.To], s.From)
	case api.PCopy:
		return covers(sets[s.To], sets[s.From])
	}
	for v := range sets {
		if s.Kind == api.PLoad && has(sets[s.From], v) && !covers(sets[s.To], sets[v]) {
			return false
		}
		if s.Kind == api.PStore && has(sets[s.To], v) && !covers(sets[v], sets[s.From]) {
			return false
		}
	}
	return true
}

// obeysAll reports whether sets have the properties that the document demands for all statements.
func obeysAll(sets []uint32, l []api.Point) bool {
	for _, s := range l {
		if !obeys(sets, s) {
			return false
		}
	}
	return true
}

// allSets lists all choices of a set for each variable.
func allSets(vars int) [][]uint32 {
	var all [][]uint32
	for list := range sample.Lists(vars, 1<<vars) {
		var sets []uint32
		for _, set := range list {
			sets = append(sets, uint32(set))
		}
		all = append(all, sets)
	}
	return all
}

// common is, for each variable, what is in all sets of those choices that have the properties for all statements.
func common(vars int, l []api.Point, choices [][]uint32) []uint32 {
	left := make([]uint32, vars)
	for v := range left {
		left[v] = 1<<vars - 1
	}
	for _, sets := range choices {
		if obeysAll(sets, l) {
			for v, set := range sets {
				left[v] &= set
			}
		}
	}
	return left
}

// inclusions is what the inclusion-based analysis finds, one variable in one set at a time.
func inclusions(vars int, l []api.Point) []uint32 {
	to := newRelation(vars)
	for changed := true; changed; {
		changed = false
		for _, s := range l {
			if s.Kind == api.PAddr && to.add(s.To, s.From) {
				changed = true
			}
			for flow := range flows(to, s) {
				for x, is := range to[flow[1]] {
					if is && to.add(flow[0], x) {
						changed = true
					}
				}
			}
		}
	}
	return to.sets()
}

// flows yields all pairs of variables the first of which gets what the second one points to, if a statement is executed where each variable points to some of what to tells.
func flows(to relation, s api.Point) iter.Seq[[2]int] {
	return func(yield func([2]int) bool) {
		if s.Kind == api.PCopy {
			yield([2]int{s.To, s.From})
			return
		}
		for v := range to {
			if s.Kind == api.PLoad && to[s.From][v] && !yield([2]int{s.To, v}) {
				return
			}
			if s.Kind == api.PStore && to[s.To][v] && !yield([2]int{v, s.From}) {
				return
			}
		}
	}
}

// unifications is what the unification-based analysis finds. It keeps two relations, which variables are in one class, and which point to which, and adds to them what the document's rules ask for until nothing is left.
func unifications(vars int, l []api.Point) []uint32 {
	one, to := newRelation(vars), newRelation(vars)
	for v := range vars {
		one.add(v, v)
	}
	for changed := true; changed; {
		changed = closeClasses(one, to)
		for _, s := range l {
			if s.Kind == api.PAddr && to.add(s.To, s.From) {
				changed = true
			}
			for flow := range flows(to, s) {
				for x := range vars {
					if to[flow[0]][x] != to[flow[1]][x] {
						to.add(flow[0], x)
						to.add(flow[1], x)
						changed = true
					}
				}
			}
		}
	}
	return to.sets()
}

// closeClasses adds what follows from the meaning of the two relations: variables to which variables of one class point are in one class, and all variables of a class point to all of another one, or none does. It reports whether that was anything.
func closeClasses(one, to relation) bool {
	changed := false
	for a := range one {
		for b := range one {
			for x := range one {
				if one[a][b] && one[b][x] && one.add(a, x) {
					changed = true
				}
				if to[a][b] && to[a][x] && one.add(b, x) {
					changed = true
				}
				if one[a][b] && to[b][x] && to.add(a, x) {
					changed = true
				}
				if to[a][b] && one[b][x] && to.add(a, x) {
					changed = true
				}
			}
		}
	}
	return changed
}

// statements lists all statements over so many variables.
func statements(vars int) []api.Point {
	var all []api.Point
	for kind := api.PAddr; kind <= api.PStore; kind++ {
		for to := range vars {
			for from := range vars {
				all = append(all, api.Point{Kind: kind, To: to, From: from})
			}
		}
	}
	return all
}
