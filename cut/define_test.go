package cut_test

import (
	"slices"
	"testing"

	"codemason/api"
	"codemason/block"
	"codemason/cut"
	"codemason/hang"
	"codemason/sample"
	"codemason/way"
)

// demand is a set of steps and of Tests of a program.
type demand struct {
	steps [][]bool
	tests uint32
}

// nothing is the demand without steps and Tests.
func nothing(p []api.Block) demand {
	d := demand{steps: make([][]bool, len(p))}
	for i, b := range p {
		d.steps[i] = make([]bool, len(b.Code))
	}
	return d
}

// same reports whether two demands are the same.
func same(a, b demand) bool {
	return a.tests == b.tests && slices.EqualFunc(a.steps, b.steps, slices.Equal)
}

// subject is what is to be sliced: a program, and the variables whose final values are needed.
type subject struct {
	p    []api.Block
	want uint32
	on   []uint32 // The blocks that are control dependent on each block.
	last []uint32 // The blocks that postdominate each block.
}

// newSubject prepares a program for the definitions.
func newSubject(t *testing.T, vars int, p []api.Block, want uint32) subject {
	t.Helper()
	next, e := block.Way(vars, p)
	if e != api.OK {
		t.Fatalf("Way(%d, %v): %v", vars, p, e)
	}
	on, _ := hang.On(next)
	last, _ := hang.Last(next)
	return subject{p, want, on, last}
}

// stops reports whether from every reached block one that stops can be reached.
func (s subject) stops() bool {
	never := func(sample.Place) bool { return false }
	end := func(at sample.Place) bool {
		b := s.p[at.Block]
		return at.Step == len(b.Code) && sample.Stops(b)
	}
	stuck := func(at sample.Place) bool { return !sample.Leads(s.p, at, end, never) }
	return !sample.Leads(s.p, sample.Place{}, stuck, never)
}

// feeds reports whether along some way behind a step its To is used by what is in d, or is needed where the program stops, before a step sets it that ends this way.
func (s subject) feeds(d demand, i, k int, ends func(i, k int) bool) bool {
	v := s.p[i].Code[k].To
	used := func(at sample.Place) bool {
		b := s.p[at.Block]
		if at.Step < len(b.Code) {
			return d.steps[at.Block][at.Step] && sample.Uses(b.Code[at.Step], v)
		}
		return way.Has(d.tests, at.Block) && b.Test == v || sample.Stops(b) && way.Has(s.want, v)
	}
	isSet := func(at sample.Place) bool {
		code := s.p[at.Block].Code
		return at.Step < len(code) && code[at.Step].To == v && ends(at.Block, at.Step)
	}
	return sample.Leads(s.p, sample.Place{Block: i, Step: k + 1}, used, isSet)
}

// decides reports whether the Test of block i decides about a step or Test that is in d.
func (s subject) decides(d demand, i int) bool {
	for b := range s.p {
		if way.Has(s.on[i], b) && (way.Has(d.tests, b) || slices.Contains(d.steps[b], true)) {
			return true
		}
	}
	return false
}

// has reports whether a demand has the document's properties, to the letter: steps that are not in it do not end a way.
func (s subject) has(d demand) bool {
	ends := func(i, k int) bool { return d.steps[i][k] }
	for i, b := range s.p {
		for k := range b.Code {
			if !d.steps[i][k] && s.feeds(d, i, k, ends) {
				return false
			}
		}
		if b.Test != -1 && !way.Has(d.tests, i) && s.decides(d, i) {
			return false
		}
	}
	return true
}

// grown is what is added to nothing until the document's properties hold. A way ends where any step sets the variable: the last one on a way to a use is added anyway.
func (s subject) grown() demand {
	d := nothing(s.p)
	always := func(int, int) bool { return true }
	for changed := true; changed; {
		changed = false
		for i, b := range s.p {
			for k := range b.Code {
				if !d.steps[i][k] && s.feeds(d, i, k, always) {
					d.steps[i][k] = true
					changed = true
				}
			}
			if b.Test != -1 && !way.Has(d.tests, i) && s.decides(d, i) {
				d.tests |= 1 << i
				changed = true
			}
		}
	}
	return d
}

// checkSmallest checks that a demand has the document's properties, and is a part of every other one that has them.
func (s subject) checkSmallest(t *testing.T, d demand) {
	t.Helper()
	if !s.has(d) {
		t.Fatalf("%v for %b: %v does not have the properties", s.p, s.want, d)
	}
	var places [][2]int
	for i, b := range s.p {
		for k := range b.Code {
			places = append(places, [2]int{i, k})
		}
		if b.Test != -1 {
			places = append(places, [2]int{i, -1})
		}
	}
	for chosen := range 1 << len(places) {
		other := nothing(s.p)
		covers := true
		for n, at := range places {
			in := chosen>>n&1 != 0
			i, k := at[0], at[1]
			if k == -1 {
				covers = covers && (in || !way.Has(d.tests, i))
				other.tests |= uint32(chosen>>n&1) << i
			} else {
				covers = covers && (in || !d.steps[i][k])
				other.steps[i][k] = in
			}
		}
		if !covers && s.has(other) {
			t.Fatalf("%v for %b: %v has the properties, and %v is not a part of it", s.p, s.want, other, d)
		}
	}
}

// sliced is the program that the document describes.
func (s subject) sliced(d demand) []api.Block {
	var q []api.Block
	for i, b := range s.p {
		c := api.Block{Test: b.Test, Then: b.Then, Else: b.Else}
		if !way.Has(d.tests, i) {
			c = api.Block{Test: -1, Then: s.immediate(i), Else: 0}
		}
		for k, step := range b.Code {
			if d.steps[i][k] {
				c.Code = append(c.Code, step)
			}
		}
		q = append(q, c)
	}
	return q
}

// immediate is the immediate postdominator of a block by the document's definition, or -1.
func (s subject) immediate(a int) int {
	for b := range s.p {
		is := b != a && way.Has(s.last[a], b)
		for c := range s.p {
			is = is && (c == a || !way.Has(s.last[a], c) || way.Has(s.last[b], c))
		}
		if is {
			return b
		}
	}
	return -1
}

// checkDefinitions compares both functions with the document's definitions for a valid program and set, and returns what is required, and whether this is not an error.
func checkDefinitions(t *testing.T, vars int, p []api.Block, want uint32) (demand, bool) {
	t.Helper()
	s := newSubject(t, vars, p, want)
	if !s.stops() {
		checkRejected(t, "definition", vars, p, want, api.ErrNone)
		return demand{}, false
	}
	d := s.grown()
	steps, tests, e := cut.Needs(vars, p, want)
	if !same(demand{steps, tests}, d) || e != api.OK {
		t.Fatalf("Needs(%d, %v, %b) = %v, %b, %v, want %v", vars, p, want, steps, tests, e, d)
	}
	if q, e := cut.Slice(vars, p, want); !sample.SameProgram(q, s.sliced(d)) || e != api.OK {
		t.Fatalf("Slice(%d, %v, %b) = %v, %v, want %v", vars, p, want, q, e, s.sliced(d))
	}
	return d, true
}

// T1, T2: all programs of two blocks over two variables, with one of some lists of steps in each of them.
func TestShortPrograms(t *testing.T) {
	code := [][]api.Step{
		nil,
		{setNum(0, 1)},
		{setVar(1, 0)},
		{set(api.OAdd, 0, 0, 1)},
		{setNum(1, 1), setVar(0, 1)},
		{setVar(0, 1), setVar(1, 0)},
	}
	for p := range sample.ShortPrograms(code) {
		for want := range uint32(4) {
			if d, is := checkDefinitions(t, 2, p, want); is {
				newSubject(t, 2, p, want).checkSmallest(t, d)
			}
		}
	}
}

// T1, T2: programs of three to five blocks with few steps, whose required sets are compared with all others that have the properties.
func TestSmallestSets(t *testing.T) {
	pick := sample.Numbers()
	checked, required := 0, 0
	for round := range 3000 {
		vars := 2 + round%2
		p := stopping(pick, sample.Program(pick, vars, 3+pick(3), pick(6)))
		want := uint32(pick(1 << vars))
		d, is := checkDefinitions(t, vars, p, want)
		if is {
			newSubject(t, vars, p, want).checkSmallest(t, d)
			checked++
			if d.tests != 0 {
				required++
			}
		}
	}
	if checked < 2000 || required < 200 {
		t.Errorf("only %d programs were checked, %d of them with a required Test", checked, required)
	}
}

// stopping makes a program stop behind its last block, and leads to it from one of the other blocks.
func stopping(pick func(int) int, p []api.Block) []api.Block {
	end := len(p) - 1
	p[end] = stop(p[end].Code...)
	i := pick(end)
	if p[i].Test != -1 {
		p[i].Else = end
	} else {
		p[i].Then = end
	}
	return p
}

// T1, T2: programs of all sizes that follow a fixed rule, and their runs.
func TestPrograms(t *testing.T) {
	pick := sample.Numbers()
	sliced, failed, required, removed, runs := 0, 0, 0, 0, 0
	for round := range 12000 {
		vars, blocks := 1+round%api.MaxVars, 1+pick(api.MaxNodes)
		p := sample.Program(pick, vars, blocks, pick(api.MaxLines+1))
		if blocks > 1 && round%3 > 0 {
			p = stopping(pick, p)
		}
		sample.FillUnused(pick, vars, p)
		want := uint32(pick(1<<vars)) & uint32(pick(1<<vars))
		d, is := checkDefinitions(t, vars, p, want)
		if !is {
			failed++
			continue
		}
		sliced++
		required, removed = required+count(d, p, true), removed+count(d, p, false)
		q, _ := cut.Slice(vars, p, want)
		for range 3 {
			if checkRuns(t, vars, p, q, want, sample.Values(pick, vars)) {
				runs++
			}
		}
	}
	if sliced < 4000 || failed < 2000 || required < 1000 || removed < 1000 || runs < 8000 {
		t.Errorf("only %d programs were sliced, %d failed; only %d Tests were required, %d not; only %d runs stopped", sliced, failed, required, removed, runs)
	}
}

// count is the number of the Tests that are in d, or are not.
func count(d demand, p []api.Block, in bool) int {
	n := 0
	for i, b := range p {
		if b.Test != -1 && way.Has(d.tests, i) == in {
			n++
		}
	}
	return n
}

// T2: a slice is a program. Where the program stops, it stops too, with the same final values of the needed variables, and executes some of the same blocks in the same order. checkRuns reports whether the program stops.
func checkRuns(t *testing.T, vars int, p, q []api.Block, want uint32, have []int) bool {
	t.Helper()
	wantVals, wantBlocks, e := block.Run(vars, p, have)
	if e != api.OK {
		return false
	}
	vals, was, e := block.Run(vars, q, have)
	if e != api.OK || !isPart(was, wantBlocks) {
		t.Fatalf("%v sliced for %b to %v executes %v, %v from %v, not a part of %v", p, want, q, was, e, have, wantBlocks)
	}
	for v := range vals {
		if want>>v&1 != 0 && vals[v] != wantVals[v] {
			t.Fatalf("%v sliced for %b to %v yields %v from %v, want %v", p, want, q, vals, have, wantVals)
		}
	}
	return true
}

// isPart reports whether a list is another one without some of its elements.
func isPart(list, of []int) bool {
	for _, v := range of {
		if len(list) > 0 && list[0] == v {
			list = list[1:]
		}
	}
	return len(list) == 0
}
