package single_test

import (
	"slices"
	"testing"

	"codemason/api"
	"codemason/sample"
	"codemason/single"
)

// checkDefinitions compares Check, Run and Once with the document's definitions for valid arguments, and returns the result of Once.
func checkDefinitions(t *testing.T, vars int, l []api.Single, have []int) bool {
	t.Helper()
	checkRun(t, vars, l, have)
	return checkForm(t, vars, l)
}

// checkRun compares Run with the document's definition for valid arguments, and returns, for each executed block, the values of its Last.
func checkRun(t *testing.T, vars int, l []api.Single, have []int) [][]int {
	t.Helper()
	want, lasts, stops := execute(vars, l, have)
	wantError := api.OK
	if !stops {
		wantError = api.ErrLoop
	}
	if vals, e := single.Run(vars, l, have); !slices.Equal(vals, want) || e != wantError {
		t.Fatalf("Run(%d, %v, %v) = %v, %v, want %v, %v", vars, l, have, vals, e, want, wantError)
	}
	return lasts
}

// checkForm compares Check and Once with the document's definitions for valid arguments, and returns the result of Once.
func checkForm(t *testing.T, vars int, l []api.Single) bool {
	t.Helper()
	if e := single.Check(vars, l); e != api.OK {
		t.Fatalf("Check(%d, %v) = %v, want OK", vars, l, e)
	}
	is, e := single.Once(vars, l)
	if wantForm := isOnce(vars, l); is != wantForm || e != api.OK {
		t.Fatalf("Once(%d, %v) = %v, %v, want %v", vars, l, is, e, wantForm)
	}
	return is
}

// leadsTo reports whether execution may continue with the block to behind this one.
func leadsTo(b api.Single, to int) bool {
	return b.Then == to || b.Test != -1 && b.Else == to
}

// comesFrom lists the sources of block i, with -1 for the start.
func comesFrom(l []api.Single, i int) []int {
	var list []int
	for from := -1; from < len(l); from++ {
		if from == -1 && i == 0 || from >= 0 && leadsTo(l[from], i) {
			list = append(list, from)
		}
	}
	return list
}

// checkError is the error of a named program with allowed numbers of variables, blocks, steps and joins, by the document's definition.
func checkError(vars int, l []api.Single) api.Errno {
	isBlock := func(i int) bool { return 0 <= i && i < len(l) }
	isName := func(n int) bool { return 0 <= n && n < 128 }
	for _, b := range l {
		thenStops := b.Test == -1 && b.Then == -1
		if b.Test < -1 || !thenStops && !isBlock(b.Then) || b.Test >= 0 && !isBlock(b.Else) || len(b.Last) != vars {
			return api.ErrForm
		}
	}
	for i, b := range l {
		for _, j := range b.Joins {
			if len(j.From) != len(comesFrom(l, i)) {
				return api.ErrForm
			}
			for _, n := range append([]int{j.To}, j.From...) {
				if !isName(n) {
					return api.ErrArg
				}
			}
		}
		for _, s := range b.Code {
			if s.Op < api.ONum || s.Op > api.OLess {
				return api.ErrKind
			}
			if s.Op == api.ONum && (s.Val < 0 || s.Val > 255) {
				return api.ErrRange
			}
			for _, n := range append([]int{s.To}, usedNames(s)...) {
				if !isName(n) {
					return api.ErrArg
				}
			}
		}
		for _, n := range append([]int{max(b.Test, 0)}, b.Last...) {
			if !isName(n) {
				return api.ErrArg
			}
		}
	}
	return api.OK
}

// usedNames lists the names that a step uses.
func usedNames(s api.Step) []int {
	switch {
	case s.Op == api.ONum:
		return nil
	case s.Op == api.OVar:
		return []int{s.Val}
	}
	return []int{s.A, s.B}
}

// execute runs a valid named program by the document's definition. It also returns, for each executed block, the values of its Last.
func execute(vars int, l []api.Single, have []int) (vals []int, lasts [][]int, stops bool) {
	var sources [][]int
	for i := range l {
		sources = append(sources, comesFrom(l, i))
	}
	var x [128]int
	copy(x[:], have)
	from, at := -1, 0
	for range 200 {
		b := l[at]
		before := x
		for _, j := range b.Joins {
			x[j.To] = before[j.From[slices.Index(sources[at], from)]]
		}
		sample.Execute(b.Code, x[:])
		last := make([]int, vars)
		for v := range last {
			last[v] = x[b.Last[v]]
		}
		lasts = append(lasts, last)
		from = at
		switch {
		case b.Test == -1 && b.Then == -1:
			return last, lasts, true
		case b.Test == -1 || x[b.Test] != 0:
			at = b.Then
		default:
			at = b.Else
		}
	}
	return nil, lasts, false
}

// isOnce reports whether a valid named program is in static single assignment form, by the document's definition.
func isOnce(vars int, l []api.Single) bool {
	var times [128]int
	for _, b := range l {
		for _, j := range b.Joins {
			times[j.To]++
		}
		for _, s := range b.Code {
			times[s.To]++
		}
	}
	for n, count := range times {
		if count > 1 || count == 1 && n < vars {
			return false
		}
	}
	for i, b := range l {
		for k, s := range b.Code {
			if !mayUse(vars, l, i, k, usedNames(s)) {
				return false
			}
		}
		if !mayUse(vars, l, i, len(b.Code), b.Last) || b.Test != -1 && !mayUse(vars, l, i, len(b.Code), []int{b.Test}) {
			return false
		}
		for _, j := range b.Joins {
			for k, from := range comesFrom(l, i) {
				if from == -1 && j.From[k] >= vars {
					return false
				}
				if from != -1 && !mayUse(vars, l, from, len(l[from].Code), j.From[k:k+1]) {
					return false
				}
			}
		}
	}
	return true
}

// mayUse reports whether these names may be used in block i before step k.
func mayUse(vars int, l []api.Single, i, k int, names []int) bool {
	if !reaches(l, i, -1) {
		return true
	}
	for _, n := range names {
		may := n < vars || setIn(l[i].Joins, l[i].Code[:k], n)
		for a, b := range l {
			if a != i && setIn(b.Joins, b.Code, n) && !reaches(l, i, a) {
				may = true
			}
		}
		if !may {
			return false
		}
	}
	return true
}

// setIn reports whether a join or a step sets the name.
func setIn(joins []api.Join, code []api.Step, name int) bool {
	return slices.ContainsFunc(joins, func(j api.Join) bool { return j.To == name }) ||
		slices.ContainsFunc(code, func(s api.Step) bool { return s.To == name })
}

// reaches reports whether some way leads to block to without the block around: if none does, and some way does otherwise, that one dominates it.
func reaches(l []api.Single, to, around int) bool {
	if around == 0 {
		return false
	}
	met := []int{0}
	for n := 0; n < len(met); n++ {
		for next := range l {
			if leadsTo(l[met[n]], next) && next != around && !slices.Contains(met, next) {
				met = append(met, next)
			}
		}
	}
	return slices.Contains(met, to)
}
