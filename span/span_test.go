package span_test

import (
	"math"
	"slices"
	"testing"

	"codemason/api"
	"codemason/sample"
	"codemason/span"
)

// The tests write blocks and steps with these.
var (
	stop, jump, branch  = sample.Stop, sample.Jump, sample.Branch
	setNum, setVar, set = sample.SetNum, sample.SetVar, sample.SetOp
)

// from is the interval of all values from low to high.
func from(low, high int) api.Span { return api.Span{Low: low, High: high} }

// only is the interval of a single value.
func only(v int) api.Span { return from(v, v) }

// all is the interval of all values.
var all = from(0, 255)

// wrongSpans lists intervals that are not valid.
func wrongSpans() []api.Span {
	list := []api.Span{from(1, 0), from(255, 254), from(255, 0), from(128, 127), from(math.MaxInt, math.MinInt)}
	for _, v := range sample.Outside(api.MaxVal + 1) {
		list = append(list, from(0, v), from(v, 255), from(v, 0), only(v))
	}
	return append(list, from(-2, -1), from(256, 300), from(-1, 256), from(math.MinInt, math.MaxInt))
}

// R1: operations that are unknown, or have no operands, also before intervals that are not valid.
func TestInvalidOperations(t *testing.T) {
	for _, op := range []int{math.MinInt, -api.OAdd, -1, 0, api.ONum, api.OVar, api.OLess + 1, 99, api.OAdd + 256, math.MaxInt} {
		for _, a := range append(wrongSpans(), all, only(0)) {
			for _, b := range append(wrongSpans(), all, only(0)) {
				if s, e := span.Do(op, a, b); s != (api.Span{}) || e != api.ErrKind {
					t.Errorf("Do(%d, %v, %v) = %v, %v, want no interval, %v", op, a, b, s, e, api.ErrKind)
				}
			}
		}
	}
}

// R1: intervals that are not valid, as each operand and as both.
func TestInvalidOperands(t *testing.T) {
	for op := api.OAdd; op <= api.OLess; op++ {
		for _, wrong := range wrongSpans() {
			for _, right := range []api.Span{all, only(0), only(255), from(1, 2), wrong} {
				for _, x := range [][2]api.Span{{wrong, right}, {right, wrong}} {
					if s, e := span.Do(op, x[0], x[1]); s != (api.Span{}) || e != api.ErrRange {
						t.Errorf("Do(%d, %v, %v) = %v, %v, want no interval, %v", op, x[0], x[1], s, e, api.ErrRange)
					}
				}
			}
		}
	}
}

// R1: intervals that are easily seen, the document's example first.
func TestDo(t *testing.T) {
	for _, c := range []struct {
		name       string
		op         int
		a, b, want api.Span
	}{
		{"example", api.OAdd, from(250, 255), only(1), all},
		{"a sum", api.OAdd, from(3, 9), from(10, 20), from(13, 29)},
		{"a sum up to the greatest value", api.OAdd, from(3, 205), from(10, 50), from(13, 255)},
		{"a sum that exceeds it once", api.OAdd, from(3, 206), from(10, 50), all},
		{"a sum that always exceeds it", api.OAdd, from(200, 255), from(56, 255), from(0, 254)},
		{"a sum of all values", api.OAdd, all, only(7), all},
		{"a difference", api.OSub, from(30, 90), from(10, 20), from(10, 80)},
		{"a difference down to 0", api.OSub, from(20, 90), from(10, 20), from(0, 80)},
		{"a difference that is less once", api.OSub, from(19, 90), from(10, 20), all},
		{"a difference that is always less", api.OSub, from(0, 9), from(10, 20), from(236, 255)},
		{"a difference of equal intervals", api.OSub, from(7, 9), from(7, 9), all},
		{"a difference of equal values", api.OSub, only(7), only(7), only(0)},
		{"a product", api.OMul, from(2, 5), from(10, 51), from(20, 255)},
		{"a product with 0", api.OMul, only(0), all, only(0)},
		{"a product with 1", api.OMul, from(3, 9), only(1), from(3, 9)},
		{"a product with 255", api.OMul, from(1, 9), only(255), from(247, 255)},
		{"a product with 128", api.OMul, only(128), all, from(0, 128)},
		{"a product of odd numbers", api.OMul, only(85), from(3, 4), from(84, 255)},
		{"a product that always exceeds it", api.OMul, from(16, 17), from(17, 18), from(16, 50)},
		{"a product that exceeds it differently", api.OMul, from(100, 101), from(5, 6), from(88, 249)},
		{"a product of many even numbers", api.OMul, only(2), all, from(0, 254)},
		{"always less", api.OLess, from(1, 4), from(5, 9), only(1)},
		{"never less", api.OLess, from(5, 9), from(1, 5), only(0)},
		{"less or equal", api.OLess, from(1, 5), from(5, 9), from(0, 1)},
		{"less or greater", api.OLess, from(5, 9), from(1, 6), from(0, 1)},
		{"equal", api.OLess, only(5), only(5), only(0)},
	} {
		if s, e := span.Do(c.op, c.a, c.b); s != c.want || e != api.OK {
			t.Errorf("%s: Do(%d, %v, %v) = %v, %v, want %v", c.name, c.op, c.a, c.b, s, e, c.want)
		}
		checkDo(t, c.op, c.a, c.b)
	}
}

// checkRejected checks that In returns this error.
func checkRejected(t *testing.T, name string, vars int, p []api.Block, have []api.Span, want api.Errno) {
	t.Helper()
	if in, e := span.In(vars, p, have); len(in) != 0 || e != want {
		t.Errorf("%s: In(%d, %v, %v) = %v, %v, want an empty list, %v", name, vars, p, have, in, e, want)
	}
}

// R2: invalid programs, before invalid intervals.
func TestInvalidPrograms(t *testing.T) {
	for _, c := range sample.BadPrograms() {
		for _, have := range [][]api.Span{make([]api.Span, max(0, min(c.Vars, api.MaxVars+1))), nil, {from(1, 0)}, {only(256), all}} {
			checkRejected(t, c.Name, c.Vars, c.Program, have, c.Want)
		}
	}
}

// R2: lists of another length, and intervals that are not valid.
func TestInvalidIntervals(t *testing.T) {
	for _, p := range [][]api.Block{{stop()}, {jump(0)}, {branch(0, 1, 1, setNum(0, 1)), stop()}} {
		for vars := 1; vars <= api.MaxVars; vars++ {
			for count := range api.MaxVars + 3 {
				if count == vars {
					continue
				}
				checkRejected(t, "count", vars, p, slices.Repeat([]api.Span{all}, count), api.ErrForm)
				checkRejected(t, "count before intervals", vars, p, slices.Repeat([]api.Span{from(1, 0)}, count), api.ErrForm)
			}
			for v := range vars {
				for _, wrong := range wrongSpans() {
					have := slices.Repeat([]api.Span{from(3, 4)}, vars)
					have[v] = wrong
					checkRejected(t, "interval", vars, p, have, api.ErrRange)
				}
			}
		}
	}
}

// inCase is a program over three variables, and the intervals before its blocks.
type inCase struct {
	name string
	have []api.Span
	p    []api.Block
	want [][]api.Span
}

// checkCases compares In with what the cases say.
func checkCases(t *testing.T, cases []inCase) {
	t.Helper()
	for _, c := range cases {
		if in, e := span.In(3, c.p, c.have); !slices.EqualFunc(in, c.want, slices.Equal) || e != api.OK {
			t.Errorf("%s: In(3, %v, %v) = %v, %v, want %v", c.name, c.p, c.have, in, e, c.want)
		}
		checkIn(t, 3, c.p, c.have)
	}
}

// R2: what steps do to the intervals.
func TestSteps(t *testing.T) {
	have := []api.Span{from(2, 5), from(4, 9), only(255)}
	var cases []inCase
	for _, c := range []struct {
		name string
		code []api.Step
		want []api.Span
	}{
		{"no steps", nil, have},
		{"a number", []api.Step{setNum(0, 7)}, []api.Span{only(7), from(4, 9), only(255)}},
		{"a variable", []api.Step{setVar(2, 0)}, []api.Span{from(2, 5), from(4, 9), from(2, 5)}},
		{"a variable of itself", []api.Step{setVar(1, 1)}, have},
		{"a sum", []api.Step{set(api.OAdd, 0, 0, 1)}, []api.Span{from(6, 14), from(4, 9), only(255)}},
		{"a difference", []api.Step{set(api.OSub, 0, 1, 0)}, []api.Span{all, from(4, 9), only(255)}},
		{"a difference from itself", []api.Step{set(api.OSub, 0, 1, 1)}, []api.Span{all, from(4, 9), only(255)}},
		{"a product", []api.Step{set(api.OMul, 2, 0, 1)}, []api.Span{from(2, 5), from(4, 9), from(8, 45)}},
		{"a product that exceeds the greatest value", []api.Step{set(api.OMul, 1, 0, 2)}, []api.Span{from(2, 5), from(251, 254), only(255)}},
		{"less", []api.Step{set(api.OLess, 1, 0, 2)}, []api.Span{from(2, 5), only(1), only(255)}},
		{"not less", []api.Step{set(api.OLess, 1, 2, 0)}, []api.Span{from(2, 5), only(0), only(255)}},
		{"perhaps less", []api.Step{set(api.OLess, 2, 0, 1)}, []api.Span{from(2, 5), from(4, 9), from(0, 1)}},
		{"one after the other", []api.Step{set(api.OAdd, 0, 0, 1), setVar(1, 0), setNum(0, 3)}, []api.Span{only(3), from(6, 14), only(255)}},
		{"fields that are not used", []api.Step{{Op: api.ONum, To: 0, A: 1, B: 2, Val: 3}, {Op: api.OVar, To: 1, A: 2, B: 2, Val: 0}, {Op: api.OAdd, To: 2, A: 0, B: 1, Val: 2}},
			[]api.Span{only(3), only(3), only(6)}},
	} {
		cases = append(cases, inCase{c.name, have, []api.Block{jump(1, c.code...), stop()}, [][]api.Span{have, c.want}})
	}
	checkCases(t, cases)
}

// R2: what a Test does to the intervals, and which edges are ignored.
func TestEdges(t *testing.T) {
	list := func(spans ...api.Span) []api.Span { return spans }
	x, other := from(0, 9), from(0, 7)
	checkCases(t, []inCase{
		{"one block", list(x, other, all), []api.Block{stop(setNum(0, 1))}, [][]api.Span{{x, other, all}}},
		{"to Then and to Else", list(x, other, all), []api.Block{branch(0, 1, 2), stop(), stop()}, [][]api.Span{{x, other, all}, {from(1, 9), other, all}, {only(0), other, all}}},
		{"another variable", list(x, other, all), []api.Block{branch(1, 1, 2), stop(), stop()}, [][]api.Span{{x, other, all}, {x, from(1, 7), all}, {x, only(0), all}}},
		{"a Test that is 0", list(only(0), other, all), []api.Block{branch(0, 1, 2), stop(), stop()}, [][]api.Span{{only(0), other, all}, {}, {only(0), other, all}}},
		{"a Test that is 1", list(only(1), other, all), []api.Block{branch(0, 1, 2), stop(), stop()}, [][]api.Span{{only(1), other, all}, {only(1), other, all}, {}}},
		{"a Test that is not 0", list(from(3, 9), other, all), []api.Block{branch(0, 1, 2), stop(), stop()}, [][]api.Span{{from(3, 9), other, all}, {from(3, 9), other, all}, {}}},
		{"a Test that is 0 or 1", list(from(0, 1), other, all), []api.Block{branch(0, 1, 2), stop(), stop()}, [][]api.Span{{from(0, 1), other, all}, {only(1), other, all}, {only(0), other, all}}},
		{"a Test behind the steps", list(x, other, all), []api.Block{branch(0, 1, 2, setNum(0, 4)), stop(), stop()}, [][]api.Span{{x, other, all}, {only(4), other, all}, {}}},
		{"a copy of the Test", list(x, other, all), []api.Block{branch(0, 1, 2, setVar(1, 0)), stop(), stop()}, [][]api.Span{{x, other, all}, {from(1, 9), x, all}, {only(0), x, all}}},
		{"both edges to one block", list(x, other, all), []api.Block{branch(0, 1, 1), stop()}, [][]api.Span{{x, other, all}, {x, other, all}}},
		{"one of both edges to one block", list(only(0), other, all), []api.Block{branch(0, 1, 1), stop()}, [][]api.Span{{only(0), other, all}, {only(0), other, all}}},
		{"Else without Test", list(x, other, all), []api.Block{{Test: -1, Then: 1, Else: 2}, stop(), stop()}, [][]api.Span{{x, other, all}, {x, other, all}, {}}},
		{"Else where a program stops", list(x, other, all), []api.Block{{Test: -1, Then: -1, Else: 1}, stop()}, [][]api.Span{{x, other, all}, {}}},
		{"the document's test", list(x, other, all), []api.Block{branch(0, 1, 0, setNum(0, 2)), stop()}, [][]api.Span{{x, other, all}, {only(2), other, all}}},
		{"tested twice", list(x, other, all), []api.Block{branch(0, 1, 3), branch(0, 2, 3), stop(), stop()}, [][]api.Span{{x, other, all}, {from(1, 9), other, all}, {from(1, 9), other, all}, {only(0), other, all}}},
	})
}

// R2: where several edges come together, and loops.
func TestJoinsAndLoops(t *testing.T) {
	list := func(spans ...api.Span) []api.Span { return spans }
	one, two := only(1), only(2)
	checkCases(t, []inCase{
		{"values between two ways", list(all, two, two), []api.Block{branch(0, 1, 2), jump(3, setNum(1, 10)), jump(3, setNum(2, 3)), stop()},
			[][]api.Span{{all, two, two}, {from(1, 255), two, two}, {only(0), two, two}, {all, from(2, 10), from(2, 3)}}},
		{"one way inside the other one", list(all, from(2, 9), two), []api.Block{branch(0, 1, 2), jump(2, setNum(1, 4)), stop()},
			[][]api.Span{{all, from(2, 9), two}, {from(1, 255), from(2, 9), two}, {all, from(2, 9), two}}},
		{"back to the start", list(two, one, from(0, 1)), []api.Block{branch(2, 0, 1, setNum(0, 5)), stop()},
			[][]api.Span{{from(2, 5), one, from(0, 1)}, {only(5), one, only(0)}}},
		{"down to 0", list(only(5), one, two), []api.Block{branch(0, 0, 1, set(api.OSub, 0, 0, 1)), stop()},
			[][]api.Span{{from(1, 5), one, two}, {only(0), one, two}}},
		{"down to 0 by steps of two", list(only(6), one, two), []api.Block{branch(0, 0, 1, set(api.OSub, 0, 0, 2)), stop()},
			[][]api.Span{{from(1, 255), one, two}, {only(0), one, two}}},
		{"up, as far as it can be", list(only(5), one, all), []api.Block{branch(2, 0, 1, set(api.OAdd, 0, 0, 1)), stop()},
			[][]api.Span{{all, one, all}, {all, one, only(0)}}},
		{"up to a bound that the analysis does not see", list(only(5), one, only(9)), []api.Block{jump(1, setVar(2, 0)), branch(2, 2, 3, set(api.OLess, 2, 0, 2)), jump(1, set(api.OAdd, 0, 0, 1), setNum(2, 9)), stop()},
			[][]api.Span{{only(5), one, only(9)}, {only(5), one, only(5)}, {}, {only(5), one, only(0)}}},
		{"up to 200", list(only(5), one, only(200)), []api.Block{branch(2, 1, 2, set(api.OLess, 2, 0, 2)), jump(0, set(api.OAdd, 0, 0, 1), setNum(2, 200)), stop()},
			[][]api.Span{{all, one, only(200)}, {all, one, one}, {all, one, only(0)}}},
		{"a loop that changes nothing", list(two, one, all), []api.Block{branch(2, 0, 1, setVar(0, 0)), stop()},
			[][]api.Span{{two, one, all}, {two, one, only(0)}}},
		{"a loop that is not left", list(two, one, all), []api.Block{jump(1), jump(1, setNum(0, 0)), stop()},
			[][]api.Span{{two, one, all}, {from(0, 2), one, all}, {}}},
		{"a block that only itself leads to", list(two, one, all), []api.Block{stop(), jump(1), jump(0, setNum(0, 9))}, [][]api.Span{{two, one, all}, {}, {}}},
		{"a change that only itself would allow", list(one, all, two), []api.Block{jump(1), branch(0, 2, 3), branch(1, 1, 4), jump(1, setNum(0, 0)), stop()},
			[][]api.Span{{one, all, two}, {one, all, two}, {one, all, two}, {}, {one, only(0), two}}},
		{"a change that comes later", list(one, all, two), []api.Block{jump(1), branch(0, 2, 3), branch(1, 1, 4, setNum(0, 0)), jump(1, setNum(0, 2)), stop()},
			[][]api.Span{{one, all, two}, {from(0, 2), all, two}, {from(1, 2), all, two}, {only(0), all, two}, {only(0), only(0), two}}},
		{"a long way, against the order of the blocks", list(one, all, two), []api.Block{jump(7, setNum(0, 5)), stop(), jump(1), jump(2), jump(3), jump(4), jump(5), jump(6)},
			append([][]api.Span{{one, all, two}}, slices.Repeat([][]api.Span{{only(5), all, two}}, 7)...)},
	})
}

// P3: the arguments stay as they are, also beyond the length of a list, and results share no memory.
func TestMemory(t *testing.T) {
	p, changed := sample.WatchedProgram()
	spans := []api.Span{only(3), from(5, 9), from(77, 78)}
	for _, first := range []api.Span{only(3), only(0), all} {
		spans[0] = first
		for range 2 {
			checkIn(t, 2, p, spans[:2])
			in, _ := span.In(2, p, spans[:2])
			checkApart(t, in)
		}
		if changed() || !slices.Equal(spans, []api.Span{first, from(5, 9), from(77, 78)}) {
			t.Errorf("the arguments changed: %v, %v", p, spans)
		}
	}
	for _, b := range []api.Block{branch(0, 1, 1), jump(1), branch(1, 1, 0)} {
		in, _ := span.In(2, []api.Block{b, stop()}, spans[:2])
		checkApart(t, in)
	}
}

// checkApart overwrites a list of lists, and checks that no two of them share memory.
func checkApart(t *testing.T, lists [][]api.Span) {
	t.Helper()
	for i, l := range lists {
		for k := range l[:cap(l)] {
			l[:cap(l)][k] = only(i)
		}
	}
	for i, l := range lists {
		if slices.ContainsFunc(l[:cap(l)], func(s api.Span) bool { return s != only(i) }) {
			t.Errorf("lists share memory: %v", lists)
		}
	}
	clear(lists[:cap(lists)])
}
