package span_test

import (
	"slices"
	"testing"

	"codemason/api"
	"codemason/block"
	"codemason/sample"
	"codemason/span"
)

// checkDo compares Do with the document's definition for valid arguments.
func checkDo(t *testing.T, op int, a, b api.Span) {
	t.Helper()
	want := from(255, 0)
	for x := a.Low; x <= a.High; x++ {
		for y := b.Low; y <= b.High; y++ {
			v := sample.Apply(op, x, y)
			want = from(min(want.Low, v), max(want.High, v))
		}
	}
	if s, e := span.Do(op, a, b); s != want || e != api.OK {
		t.Fatalf("Do(%d, %v, %v) = %v, %v, want %v", op, a, b, s, e, want)
	}
}

// allBetween lists all intervals with bounds of a list of increasing values.
func allBetween(bounds []int) []api.Span {
	var list []api.Span
	for i, low := range bounds {
		for _, high := range bounds[i:] {
			list = append(list, from(low, high))
		}
	}
	return list
}

// R1: all operations of two values.
func TestSingleValues(t *testing.T) {
	for op := api.OAdd; op <= api.OLess; op++ {
		for a := range 256 {
			for b := range 256 {
				checkDo(t, op, only(a), only(b))
			}
		}
	}
}

// R1: all operations of two intervals with bounds where something changes, and of many other ones.
func TestIntervals(t *testing.T) {
	spans := allBetween([]int{0, 1, 2, 15, 16, 17, 127, 128, 129, 254, 255})
	pick := sample.Numbers()
	for op := api.OAdd; op <= api.OLess; op++ {
		for _, a := range spans {
			for _, b := range spans {
				checkDo(t, op, a, b)
			}
		}
		for range 2000 {
			checkDo(t, op, anySpan(pick), anySpan(pick))
		}
	}
}

// R1: products of few values with intervals of all widths, which leave out most values or exceed the greatest one many times.
func TestProducts(t *testing.T) {
	pick := sample.Numbers()
	for low := range 256 {
		for width := range 64 {
			few := from(low, min(low+pick(3), 255))
			at := pick(256 - width)
			many := from(at, at+width)
			checkDo(t, api.OMul, few, many)
			checkDo(t, api.OMul, many, few)
		}
	}
}

// anySpan builds an interval: a single value, a small one, all values, or any.
func anySpan(pick func(int) int) api.Span {
	low := pick(256)
	switch pick(6) {
	case 0:
		return only(low)
	case 1:
		return only(pick(3))
	case 2:
		return from(0, pick(4))
	case 3:
		return all
	case 4:
		return from(low, min(low+pick(9), 255))
	}
	return from(low, low+pick(256-low))
}

// checkIn compares In with the document's definition for valid arguments, and returns the result.
func checkIn(t *testing.T, vars int, p []api.Block, have []api.Span) [][]api.Span {
	t.Helper()
	want := leastSpans(p, have)
	in, e := span.In(vars, p, have)
	if !slices.EqualFunc(in, want, slices.Equal) || e != api.OK {
		t.Fatalf("In(%d, %v, %v) = %v, %v, want %v", vars, p, have, in, e, want)
	}
	return in
}

// leastSpans extends the intervals before one block after the other by only one value at a time, as long as the document asks for more.
func leastSpans(p []api.Block, have []api.Span) [][]api.Span {
	in := make([][]api.Span, len(p))
	in[0] = slices.Clone(have)
	for changed := true; changed; {
		changed = false
		for i := range slices.Backward(p) {
			if in[i] == nil {
				continue
			}
			for to, list := range along(p[i], in[i]) {
				if in[to] == nil {
					in[to] = slices.Clone(list)
					changed = true
				}
				for v, s := range list {
					if s.Low < in[to][v].Low {
						in[to][v].Low--
						changed = true
					}
					if s.High > in[to][v].High {
						in[to][v].High++
						changed = true
					}
				}
			}
		}
	}
	return in
}

// along yields each block to which an edge leads that is not ignored, with the intervals along this edge, by the document's rules.
func along(b api.Block, before []api.Span) func(yield func(to int, list []api.Span) bool) {
	list := slices.Clone(before)
	for _, s := range b.Code {
		switch s.Op {
		case api.ONum:
			list[s.To] = only(s.Val)
		case api.OVar:
			list[s.To] = list[s.Val]
		default:
			list[s.To], _ = span.Do(s.Op, list[s.A], list[s.B])
		}
	}
	return func(yield func(to int, list []api.Span) bool) {
		if b.Test == -1 {
			if b.Then != -1 {
				yield(b.Then, list)
			}
			return
		}
		tested := list[b.Test]
		if tested.High >= 1 {
			list[b.Test].Low = max(1, tested.Low)
			if !yield(b.Then, list) {
				return
			}
		}
		if tested.Low == 0 {
			list[b.Test] = only(0)
			yield(b.Else, list)
		}
	}
}

// R2: the result has the properties, and is the least one of all that have them, for programs of two blocks over one variable.
func TestLeast(t *testing.T) {
	code := [][]api.Step{nil, {setNum(0, 0)}, {setNum(0, 1)}, {setVar(0, 0)}}
	for kind := api.OAdd; kind <= api.OLess; kind++ {
		code = append(code, []api.Step{set(kind, 0, 0, 0)})
	}
	states := [][]api.Span{nil}
	for _, s := range allBetween([]int{0, 1, 2, 4, 255}) {
		states = append(states, []api.Span{s})
	}
	for p := range sample.ShortPrograms(code) {
		if block.Check(1, p) != api.OK {
			continue
		}
		for _, have := range states[1:] {
			in := checkIn(t, 1, p, have)
			if !satisfies(p, have, in) {
				t.Fatalf("In(1, %v, %v) = %v, which breaks the rules", p, have, in)
			}
			for _, first := range states {
				for _, second := range states {
					other := [][]api.Span{first, second}
					if !(covers(first, in[0]) && covers(second, in[1])) && satisfies(p, have, other) {
						t.Fatalf("In(1, %v, %v) = %v, but %v has the properties too", p, have, in, other)
					}
				}
			}
		}
	}
}

// satisfies reports whether these intervals before the blocks have the document's properties.
func satisfies(p []api.Block, have []api.Span, in [][]api.Span) bool {
	if !covers(in[0], have) {
		return false
	}
	for i, b := range p {
		if len(in[i]) == 0 {
			continue
		}
		for to, list := range along(b, in[i]) {
			if !covers(in[to], list) {
				return false
			}
		}
	}
	return true
}

// covers reports whether the intervals before a block contain other ones, if there are any.
func covers(spans, others []api.Span) bool {
	if len(others) == 0 {
		return true
	}
	for v, s := range spans {
		if others[v].Low < s.Low || others[v].High > s.High {
			return false
		}
	}
	return len(spans) > 0
}

// R2: all programs of two blocks over two variables, with at most one step in each of them.
func TestShortPrograms(t *testing.T) {
	code := [][]api.Step{nil}
	for to := range 2 {
		code = append(code, []api.Step{setNum(to, to)}, []api.Step{setVar(to, 1-to)})
		for kind := api.OAdd; kind <= api.OLess; kind++ {
			code = append(code, []api.Step{set(kind, to, to, 1-to)})
		}
	}
	pick := sample.Numbers()
	for p := range sample.ShortPrograms(code) {
		for _, have := range [][]api.Span{{only(0), only(1)}, {only(1), from(0, 2)}, {anySpan(pick), anySpan(pick)}} {
			checkIn(t, 2, p, have)
		}
	}
}

// R2: programs of all sizes that follow a fixed rule; and no run has a value that is not in its interval.
func TestPrograms(t *testing.T) {
	pick := sample.Numbers()
	gone, narrow, wide, blocks := 0, 0, 0, 0
	for round := range 8000 {
		vars := 1 + round%api.MaxVars
		p := sample.Program(pick, vars, 1+pick(api.MaxNodes), pick(api.MaxLines+1))
		sample.FillUnused(pick, vars, p)
		have := make([]api.Span, vars)
		for v := range have {
			have[v] = anySpan(pick)
		}
		for _, list := range checkIn(t, vars, p, have) {
			if len(list) == 0 {
				gone++
			}
			for _, s := range list {
				if s == all {
					wide++
				} else if s.Low < s.High {
					narrow++
				}
			}
		}
		for range 3 {
			blocks += checkRun(t, vars, p, have, valuesIn(pick, have))
		}
	}
	if gone < 5000 || narrow < 10000 || wide < 10000 || blocks < 100000 {
		t.Errorf("only %d blocks are not executed, %d intervals are narrow, %d are wide; only %d blocks were run", gone, narrow, wide, blocks)
	}
}

// valuesIn builds values that lie in these intervals.
func valuesIn(pick func(int) int, have []api.Span) []int {
	var vals []int
	for _, s := range have {
		vals = append(vals, s.Low+pick(s.High-s.Low+1))
	}
	return vals
}

// checkRun checks that a run from these values has, before each block, only values in the intervals, and returns the number of executed blocks.
func checkRun(t *testing.T, vars int, p []api.Block, have []api.Span, vals []int) int {
	t.Helper()
	in, _ := span.In(vars, p, have)
	now := slices.Clone(vals)
	for at, turns := 0, 0; ; turns++ {
		if at == -1 || turns == api.MaxTurns {
			return turns
		}
		if len(in[at]) == 0 {
			t.Fatalf("In(%d, %v, %v) = %v, but block %d is executed from %v", vars, p, have, in, at, vals)
		}
		for v, s := range in[at] {
			if now[v] < s.Low || now[v] > s.High {
				t.Fatalf("In(%d, %v, %v) = %v, but before block %d the values are %v from %v", vars, p, have, in, at, now, vals)
			}
		}
		at = sample.RunBlock(p[at], now)
	}
}
