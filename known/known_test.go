package known_test

import (
	"math"
	"slices"
	"testing"

	"codemason/api"
	"codemason/block"
	"codemason/known"
	"codemason/sample"
)

// The tests write blocks and steps with these.
var (
	stop, jump, branch  = sample.Stop, sample.Jump, sample.Branch
	setNum, setVar, set = sample.SetNum, sample.SetVar, sample.SetOp
)

// checkRejected checks that both functions return this error.
func checkRejected(t *testing.T, name string, vars int, p []api.Block, have []int, want api.Errno) {
	t.Helper()
	if in, e := known.In(vars, p, have); len(in) != 0 || e != want {
		t.Errorf("%s: In(%d, %v, %v) = %v, %v, want an empty list, %v", name, vars, p, have, in, e, want)
	}
	if q, e := known.Fold(vars, p, have); len(q) != 0 || e != want {
		t.Errorf("%s: Fold(%d, %v, %v) = %v, %v, want an empty list, %v", name, vars, p, have, q, e, want)
	}
}

// L1, L2: invalid programs, before invalid initial values.
func TestInvalidPrograms(t *testing.T) {
	for _, c := range sample.BadPrograms() {
		for _, have := range [][]int{make([]int, max(0, min(c.Vars, api.MaxVars+1))), nil, {-2}, {300, -2}} {
			checkRejected(t, c.Name, c.Vars, c.Program, have, c.Want)
		}
	}
}

// L1, L2: invalid initial values.
func TestInvalidValues(t *testing.T) {
	programs := [][]api.Block{{stop()}, {jump(0)}, {branch(0, 1, 1, setNum(0, 1)), stop()}}
	for _, p := range programs {
		for vars := 1; vars <= api.MaxVars; vars++ {
			for count := range api.MaxVars + 3 {
				if count == vars {
					continue
				}
				checkRejected(t, "count", vars, p, make([]int, count), api.ErrForm)
				checkRejected(t, "count before values", vars, p, slices.Repeat([]int{-2}, count), api.ErrForm)
			}
			for v := range vars {
				for _, val := range []int{math.MinInt, -256, -2, 256, 257, math.MaxInt} {
					have := slices.Repeat([]int{-1}, vars)
					have[v] = val
					checkRejected(t, "value", vars, p, have, api.ErrRange)
				}
			}
		}
	}
}

// L1, L2: all initial values that are valid.
func TestValidValues(t *testing.T) {
	for val := -1; val <= api.MaxVal; val++ {
		checkDefinitions(t, 1, []api.Block{stop()}, []int{val})
		checkDefinitions(t, 2, []api.Block{branch(1, 1, 2, set(api.OAdd, 0, 0, 1)), stop(), jump(1)}, []int{1, val})
	}
}

// L1: constants that are easily seen, the document's example first.
func TestIn(t *testing.T) {
	for _, c := range []struct {
		name string
		have []int
		p    []api.Block
		want [][]int
	}{
		{"example", []int{-1, -1, -1}, []api.Block{jump(1, setNum(0, 2), set(api.OAdd, 1, 0, 0)), stop()}, [][]int{{-1, -1, -1}, {2, 4, -1}}},
		{"one block", []int{0, -1, 255}, []api.Block{stop(setNum(0, 1))}, [][]int{{0, -1, 255}}},
		{"a variable", []int{7, -1, 9}, []api.Block{jump(1, setVar(1, 0), setVar(2, 1)), stop()}, [][]int{{7, -1, 9}, {7, 7, 7}}},
		{"a varying variable", []int{7, -1, 9}, []api.Block{jump(1, setVar(0, 1), setVar(2, 0)), stop()}, [][]int{{7, -1, 9}, {-1, -1, -1}}},
		{"in order", []int{1, 2, 3}, []api.Block{jump(1, setVar(0, 1), setVar(1, 2), setVar(2, 0)), stop()}, [][]int{{1, 2, 3}, {2, 3, 2}}},
		{"OAdd", []int{200, 100, -1}, []api.Block{jump(1, set(api.OAdd, 2, 0, 1)), stop()}, [][]int{{200, 100, -1}, {200, 100, 44}}},
		{"OSub", []int{100, 200, -1}, []api.Block{jump(1, set(api.OSub, 2, 0, 1)), stop()}, [][]int{{100, 200, -1}, {100, 200, 156}}},
		{"OMul", []int{100, 200, -1}, []api.Block{jump(1, set(api.OMul, 2, 0, 1)), stop()}, [][]int{{100, 200, -1}, {100, 200, 32}}},
		{"OLess", []int{100, 200, -1}, []api.Block{jump(1, set(api.OLess, 2, 0, 1)), stop()}, [][]int{{100, 200, -1}, {100, 200, 1}}},
		{"OLess of the greater one", []int{200, 100, -1}, []api.Block{jump(1, set(api.OLess, 2, 0, 1)), stop()}, [][]int{{200, 100, -1}, {200, 100, 0}}},
		{"0 times a varying variable", []int{0, -1, 5}, []api.Block{jump(1, set(api.OMul, 2, 0, 1)), stop()}, [][]int{{0, -1, 5}, {0, -1, 0}}},
		{"a varying variable times 0", []int{0, -1, 5}, []api.Block{jump(1, set(api.OMul, 2, 1, 0)), stop()}, [][]int{{0, -1, 5}, {0, -1, 0}}},
		{"a varying variable times 1", []int{1, -1, 5}, []api.Block{jump(1, set(api.OMul, 2, 1, 0)), stop()}, [][]int{{1, -1, 5}, {1, -1, -1}}},
		{"a varying variable less itself", []int{1, -1, 5}, []api.Block{jump(1, set(api.OSub, 2, 1, 1)), stop()}, [][]int{{1, -1, 5}, {1, -1, -1}}},
		{"a varying variable against itself", []int{1, -1, 5}, []api.Block{jump(1, set(api.OLess, 2, 1, 1)), stop()}, [][]int{{1, -1, 5}, {1, -1, -1}}},
		{"a varying variable against 0", []int{0, -1, 5}, []api.Block{jump(1, set(api.OLess, 2, 1, 0)), stop()}, [][]int{{0, -1, 5}, {0, -1, -1}}},
		{"a varying variable and 0", []int{0, -1, 5}, []api.Block{jump(1, set(api.OAdd, 2, 1, 0)), stop()}, [][]int{{0, -1, 5}, {0, -1, -1}}},
		{"Test not 0", []int{255, -1, 0}, []api.Block{branch(0, 1, 2), stop(), stop()}, [][]int{{255, -1, 0}, {255, -1, 0}, {}}},
		{"Test 0", []int{0, -1, 0}, []api.Block{branch(0, 1, 2), stop(), stop()}, [][]int{{0, -1, 0}, {}, {0, -1, 0}}},
		{"Test behind the steps", []int{0, -1, 0}, []api.Block{branch(0, 1, 2, setNum(0, 1)), stop(), stop()}, [][]int{{0, -1, 0}, {1, -1, 0}, {}}},
		{"Test varying", []int{0, -1, 3}, []api.Block{branch(1, 1, 2), stop(), stop()}, [][]int{{0, -1, 3}, {0, -1, 3}, {0, -1, 3}}},
		{"Test varying with one target", []int{0, -1, 3}, []api.Block{branch(1, 1, 1), stop()}, [][]int{{0, -1, 3}, {0, -1, 3}}},
		{"the tested variable is known in neither way", []int{0, -1, 3}, []api.Block{branch(1, 1, 2), jump(3), jump(3), stop()}, [][]int{{0, -1, 3}, {0, -1, 3}, {0, -1, 3}, {0, -1, 3}}},
		{"the same on both ways", []int{0, -1, 3}, []api.Block{branch(1, 1, 2), jump(3, setNum(0, 9)), jump(3, setNum(0, 9)), stop()}, [][]int{{0, -1, 3}, {0, -1, 3}, {0, -1, 3}, {9, -1, 3}}},
		{"not the same on both ways", []int{0, -1, 3}, []api.Block{branch(1, 1, 2), jump(3, setNum(0, 9)), jump(3, setNum(0, 8)), stop()}, [][]int{{0, -1, 3}, {0, -1, 3}, {0, -1, 3}, {-1, -1, 3}}},
		{"varying on the first way", []int{0, -1, 3}, []api.Block{branch(1, 1, 2), jump(3, setVar(0, 1)), jump(3), stop()}, [][]int{{0, -1, 3}, {0, -1, 3}, {0, -1, 3}, {-1, -1, 3}}},
		{"varying on the second way", []int{0, -1, 3}, []api.Block{branch(1, 1, 2), jump(3), jump(3, setVar(0, 1)), stop()}, [][]int{{0, -1, 3}, {0, -1, 3}, {0, -1, 3}, {-1, -1, 3}}},
		{"their sum is the same", []int{-1, 2, 3}, []api.Block{branch(0, 1, 2), jump(3), jump(3, setNum(1, 3), setNum(2, 2)), jump(4, set(api.OAdd, 0, 1, 2)), stop()},
			[][]int{{-1, 2, 3}, {-1, 2, 3}, {-1, 2, 3}, {-1, -1, -1}, {-1, -1, -1}}},
		{"a way that cannot be executed does not count", []int{1, -1, 3}, []api.Block{branch(0, 1, 2), jump(3, setNum(2, 4)), jump(3), stop()}, [][]int{{1, -1, 3}, {1, -1, 3}, {}, {1, -1, 4}}},
		{"the start counts", []int{1, 2, -1}, []api.Block{jump(0, setNum(0, 3))}, [][]int{{-1, 2, -1}}},
		{"the start has the same", []int{3, 2, -1}, []api.Block{jump(0, setNum(0, 3))}, [][]int{{3, 2, -1}}},
		{"the start is varying", []int{-1, 2, -1}, []api.Block{jump(0, setNum(0, 3))}, [][]int{{-1, 2, -1}}},
		{"a loop that changes nothing", []int{-1, 2, 0}, []api.Block{jump(1), branch(0, 1, 2, setVar(2, 1)), stop()}, [][]int{{-1, 2, 0}, {-1, 2, -1}, {-1, 2, 2}}},
		{"a loop that leaves a constant as it is", []int{-1, 1, 1}, []api.Block{jump(1), branch(0, 1, 2, set(api.OMul, 1, 1, 2)), stop()}, [][]int{{-1, 1, 1}, {-1, 1, 1}, {-1, 1, 1}}},
		{"a loop that is left at once", []int{0, 1, 2}, []api.Block{jump(1), branch(0, 2, 3), jump(1, setNum(0, 1)), stop()}, [][]int{{0, 1, 2}, {0, 1, 2}, {}, {0, 1, 2}}},
		{"a change that only itself would allow", []int{1, -1, 3}, []api.Block{jump(1), branch(0, 2, 3), branch(1, 1, 4), jump(1, setNum(0, 0)), stop()},
			[][]int{{1, -1, 3}, {1, -1, 3}, {1, -1, 3}, {}, {1, -1, 3}}},
		{"a change that comes later", []int{1, -1, 3}, []api.Block{jump(1), branch(0, 2, 3), branch(1, 1, 4, set(api.OSub, 0, 0, 0)), jump(1), stop()},
			[][]int{{1, -1, 3}, {-1, -1, 3}, {-1, -1, 3}, {-1, -1, 3}, {-1, -1, 3}}},
		{"a Test that becomes varying", []int{1, -1, 3}, []api.Block{branch(0, 1, 2), branch(1, 0, 1, setNum(0, 0)), stop()}, [][]int{{-1, -1, 3}, {-1, -1, 3}, {-1, -1, 3}}},
		{"a product with 0 that becomes varying", []int{0, -1, 3}, []api.Block{branch(1, 0, 1, set(api.OMul, 2, 0, 1), setNum(0, 1)), stop()}, [][]int{{-1, -1, -1}, {1, -1, -1}}},
		{"a block that no way leads to", []int{0, 1, 2}, []api.Block{stop(), jump(0, setNum(0, 7))}, [][]int{{0, 1, 2}, {}}},
		{"a long way, against the order of the blocks", []int{0, 1, 2}, []api.Block{jump(7, setNum(0, 5)), stop(), jump(1), jump(2), jump(3), jump(4), jump(5), jump(6)},
			append([][]int{{0, 1, 2}}, slices.Repeat([][]int{{5, 1, 2}}, 7)...)},
	} {
		if in, e := known.In(3, c.p, c.have); !sameLists(in, c.want) || e != api.OK {
			t.Errorf("%s: In(3, %v, %v) = %v, %v, want %v", c.name, c.p, c.have, in, e, c.want)
		}
		checkDefinitions(t, 3, c.p, c.have)
	}
}

// L2: programs that are easily folded, the document's example first.
func TestFold(t *testing.T) {
	num := func(to, val int) api.Step { return api.Step{Op: api.ONum, To: to, Val: val} }
	gone := api.Block{Test: -1, Then: -1, Else: 0}
	always := func(to int, code ...api.Step) api.Block { return api.Block{Code: code, Test: -1, Then: to} }
	for _, c := range []struct {
		name    string
		have    []int
		p, want []api.Block
	}{
		{"example", []int{-1, -1, -1}, []api.Block{stop(setNum(0, 2), set(api.OAdd, 1, 0, 0))}, []api.Block{stop(num(0, 2), num(1, 4))}},
		{"no steps", []int{0, 1, 2}, []api.Block{stop()}, []api.Block{stop()}},
		{"a number with other fields", []int{-1, -1, -1}, []api.Block{stop(api.Step{Op: api.ONum, To: 2, A: 1, B: 2, Val: 3})}, []api.Block{stop(num(2, 3))}},
		{"a variable", []int{5, -1, -1}, []api.Block{stop(setVar(1, 0))}, []api.Block{stop(num(1, 5))}},
		{"a varying variable", []int{5, -1, -1}, []api.Block{stop(setVar(0, 1))}, []api.Block{stop(setVar(0, 1))}},
		{"varying steps stay as they are", []int{5, -1, -1}, []api.Block{stop(
			api.Step{Op: api.OVar, To: 0, A: 7, B: 8, Val: 2}, api.Step{Op: api.OAdd, To: 1, A: 0, B: 2, Val: 9})}, []api.Block{stop(
			api.Step{Op: api.OVar, To: 0, A: 7, B: 8, Val: 2}, api.Step{Op: api.OAdd, To: 1, A: 0, B: 2, Val: 9})}},
		{"each operation", []int{3, 5, -1}, []api.Block{stop(set(api.OAdd, 2, 0, 1), set(api.OSub, 2, 0, 1), set(api.OMul, 2, 0, 1), set(api.OLess, 2, 0, 1))},
			[]api.Block{stop(num(2, 8), num(2, 254), num(2, 15), num(2, 1))}},
		{"one varying operand", []int{3, -1, -1}, []api.Block{stop(set(api.OAdd, 2, 0, 1), set(api.OSub, 2, 1, 0), set(api.OMul, 2, 0, 1), set(api.OLess, 2, 1, 0))},
			[]api.Block{stop(set(api.OAdd, 2, 0, 1), set(api.OSub, 2, 1, 0), set(api.OMul, 2, 0, 1), set(api.OLess, 2, 1, 0))}},
		{"a product with 0", []int{0, -1, -1}, []api.Block{stop(set(api.OMul, 1, 1, 0), set(api.OMul, 2, 0, 2))}, []api.Block{stop(num(1, 0), num(2, 0))}},
		{"a product with itself", []int{0, -1, -1}, []api.Block{stop(set(api.OMul, 1, 1, 1), set(api.OMul, 0, 0, 0))}, []api.Block{stop(set(api.OMul, 1, 1, 1), num(0, 0))}},
		{"Test not 0", []int{2, -1, -1}, []api.Block{branch(0, 1, 2, setVar(1, 2)), stop(), stop(setVar(0, 1))}, []api.Block{always(1, setVar(1, 2)), stop(), gone}},
		{"Test 0", []int{0, -1, -1}, []api.Block{branch(0, 1, 2, setVar(1, 2)), stop(setVar(0, 1)), stop()}, []api.Block{always(2, setVar(1, 2)), gone, stop()}},
		{"Test behind the steps", []int{-1, -1, -1}, []api.Block{branch(1, 0, 1, setNum(1, 0)), stop()}, []api.Block{always(1, num(1, 0)), stop()}},
		{"Test with one target", []int{0, -1, -1}, []api.Block{branch(0, 1, 1), stop()}, []api.Block{always(1), stop()}},
		{"Test varying", []int{0, -1, -1}, []api.Block{branch(1, 1, 2), stop(), stop()}, []api.Block{branch(1, 1, 2), stop(), stop()}},
		{"Else without Test stays as it is", []int{0, -1, -1}, []api.Block{{Test: -1, Then: 1, Else: 5}, {Test: -1, Then: -1, Else: -9}},
			[]api.Block{{Test: -1, Then: 1, Else: 5}, {Test: -1, Then: -1, Else: -9}}},
		{"a program that does not stop", []int{0, -1, -1}, []api.Block{branch(0, 1, 0), stop(setNum(0, 1))}, []api.Block{always(0), gone}},
		{"blocks that cannot be executed", []int{0, -1, -1}, []api.Block{stop(), jump(0, setNum(0, 1)), branch(0, 1, 2, setVar(1, 0)), {Test: -1, Then: -1, Else: 7}},
			[]api.Block{stop(), gone, gone, gone}},
		{"a loop that changes a variable", []int{1, -1, 1}, []api.Block{branch(1, 0, 1, setVar(2, 2), set(api.OAdd, 0, 0, 2)), stop()},
			[]api.Block{branch(1, 0, 1, num(2, 1), set(api.OAdd, 0, 0, 2)), stop()}},
		{"a step that is constant only at first", []int{1, -1, 0}, []api.Block{branch(1, 0, 1, setVar(2, 0), setNum(0, 2)), stop(setVar(2, 0))},
			[]api.Block{branch(1, 0, 1, setVar(2, 0), num(0, 2)), stop(num(2, 2))}},
	} {
		if q, e := known.Fold(3, c.p, c.have); !sample.SameProgram(q, c.want) || e != api.OK {
			t.Errorf("%s: Fold(3, %v, %v) = %v, %v, want %v", c.name, c.p, c.have, q, e, c.want)
		}
		checkDefinitions(t, 3, c.p, c.have)
	}
}

// L1: the result is the most precise of all that satisfy the rules, for programs of two blocks over one variable.
func TestMostPrecise(t *testing.T) {
	code := [][]api.Step{nil, {setNum(0, 0)}, {setNum(0, 1)}, {setVar(0, 0)}}
	for kind := api.OAdd; kind <= api.OLess; kind++ {
		code = append(code, []api.Step{set(kind, 0, 0, 0)})
	}
	// What may be before a block: it cannot be executed, or the variable is varying or one of these constants.
	states := [][]int{nil, {-1}, {0}, {1}, {2}, {4}, {255}}
	for p := range sample.ShortPrograms(code) {
		if _, e := block.Way(1, p); e != api.OK {
			continue
		}
		for _, have := range states[1:] {
			in, e := known.In(1, p, have)
			if e != api.OK || !satisfies(p, have, in) {
				t.Fatalf("In(1, %v, %v) = %v, %v, which breaks the rules", p, have, in, e)
			}
			for _, first := range states {
				for _, second := range states {
					other := [][]int{first, second}
					if satisfies(p, have, other) && !(covers(other[0], in[0]) && covers(other[1], in[1])) {
						t.Fatalf("In(1, %v, %v) = %v, but %v satisfies the rules too", p, have, in, other)
					}
				}
			}
		}
	}
}

// satisfies reports whether these constants before the blocks satisfy the document's rules.
func satisfies(p []api.Block, have []int, in [][]int) bool {
	if !covers(in[0], have) {
		return false
	}
	for i, b := range p {
		if len(in[i]) == 0 {
			continue
		}
		vals := in[i]
		for _, s := range b.Code {
			vals = behind(s, vals)
		}
		for _, to := range targets(b, vals) {
			if !covers(in[to], vals) {
				return false
			}
		}
	}
	return true
}

// covers reports whether constants before a block allow those along one way to it, if there are any.
func covers(vals, along []int) bool {
	if len(along) == 0 {
		return true
	}
	for v := range vals {
		if vals[v] != -1 && vals[v] != along[v] {
			return false
		}
	}
	return len(vals) > 0
}

// behind is the constants behind a step, by the document's rules.
func behind(s api.Step, vals []int) []int {
	vals = slices.Clone(vals)
	switch {
	case s.Op == api.ONum:
		vals[s.To] = s.Val
	case s.Op == api.OVar:
		vals[s.To] = vals[s.Val]
	case vals[s.A] != -1 && vals[s.B] != -1:
		vals[s.To] = sample.Apply(s.Op, vals[s.A], vals[s.B])
	case s.Op == api.OMul && vals[s.A]*vals[s.B] == 0:
		vals[s.To] = 0
	default:
		vals[s.To] = -1
	}
	return vals
}

// targets lists the blocks that may be executed next, if these are the constants behind the steps.
func targets(b api.Block, vals []int) []int {
	var list []int
	if b.Then != -1 && (b.Test == -1 || vals[b.Test] != 0) {
		list = append(list, b.Then)
	}
	if b.Test != -1 && vals[b.Test] <= 0 {
		list = append(list, b.Else)
	}
	return list
}

// L1, L2: all programs of two blocks over two variables, with at most one step in each of them.
func TestShortPrograms(t *testing.T) {
	code := [][]api.Step{nil}
	for to := range 2 {
		for a := range 2 {
			code = append(code, []api.Step{setNum(to, a)}, []api.Step{setVar(to, a)})
			for b := range 2 {
				code = append(code, []api.Step{set(api.OMul, to, a, b)})
			}
		}
	}
	for p := range sample.ShortPrograms(code) {
		for _, have := range [][]int{{-1, -1}, {-1, 0}, {0, -1}, {1, -1}, {1, 0}, {2, 1}} {
			checkDefinitions(t, 2, p, have)
		}
	}
}

// L1, L2: programs of all sizes that follow a fixed rule.
func TestPrograms(t *testing.T) {
	pick := sample.Numbers()
	gone, folded, kept, stopped := 0, 0, 0, 0
	for round := range 12000 {
		vars, blocks, lines := 1+round%api.MaxVars, 1+pick(api.MaxNodes), pick(api.MaxLines+1)
		p := sample.Program(pick, vars, blocks, lines)
		sample.FillUnused(pick, vars, p)
		have := sample.Values(pick, vars)
		for v := range have {
			if pick(3) > 0 {
				have[v] = -1
			}
		}
		in, q := checkDefinitions(t, vars, p, have)
		for i, b := range q {
			if len(in[i]) == 0 {
				gone++
			} else if b.Test != p[i].Test {
				folded++
			} else if b.Test != -1 {
				kept++
			}
		}
		for range 3 {
			if checkRuns(t, vars, p, q, in, have, sample.Values(pick, vars)) {
				stopped++
			}
		}
	}
	if gone < 5000 || folded < 2000 || kept < 2000 || stopped < 10000 {
		t.Errorf("only %d blocks cannot be executed, %d tests are constant, %d are not; only %d runs stopped", gone, folded, kept, stopped)
	}
}

// checkRuns checks that a run from some values that have allows finds the constants before its blocks, and that the folded program does the same; it reports whether that stops.
func checkRuns(t *testing.T, vars int, p, q []api.Block, in [][]int, have, vals []int) bool {
	t.Helper()
	for v := range vals {
		if have[v] != -1 {
			vals[v] = have[v]
		}
	}
	wantVals, wantBlocks, wantError := block.Run(vars, p, vals)
	got, was, e := block.Run(vars, q, vals)
	if e != wantError || !slices.Equal(was, wantBlocks) || !slices.Equal(got, wantVals) {
		t.Fatalf("%v folded for %v to %v yields %v, %v, %v from %v, want %v, %v, %v", p, have, q, got, was, e, vals, wantVals, wantBlocks, wantError)
	}
	at, now := 0, slices.Clone(vals)
	for range api.MaxTurns {
		if !covers(in[at], now) {
			t.Fatalf("In(%d, %v, %v) = %v, but before block %d the values may be %v", vars, p, have, in, at, now)
		}
		for _, s := range p[at].Code {
			now = behind(s, now)
		}
		next := targets(p[at], now)
		if len(next) == 0 {
			break
		}
		at = next[0]
	}
	return e == api.OK
}

// checkDefinitions compares both functions with the document's definitions for valid arguments, and returns their results.
func checkDefinitions(t *testing.T, vars int, p []api.Block, have []int) ([][]int, []api.Block) {
	t.Helper()
	at := constants(p, have)
	want := make([][]int, len(p))
	for i := range p {
		want[i] = at[i][0]
	}
	in, e := known.In(vars, p, have)
	if !sameLists(in, want) || e != api.OK {
		t.Fatalf("In(%d, %v, %v) = %v, %v, want %v", vars, p, have, in, e, want)
	}
	q, e := known.Fold(vars, p, have)
	if wantProgram := folded(p, at); !sample.SameProgram(q, wantProgram) || e != api.OK {
		t.Fatalf("Fold(%d, %v, %v) = %v, %v, want %v", vars, p, have, q, e, wantProgram)
	}
	return in, q
}

// constants is, for each block, and each place before, between and behind its steps, the constants there, or nil where execution cannot come.
func constants(p []api.Block, have []int) [][][]int {
	at := make([][][]int, len(p))
	for i, b := range p {
		at[i] = make([][]int, len(b.Code)+1)
	}
	changed := true
	come := func(i, k int, vals []int) {
		if at[i][k] == nil {
			at[i][k] = slices.Clone(vals)
			changed = true
		}
		for v := range vals {
			if at[i][k][v] != vals[v] && at[i][k][v] != -1 {
				at[i][k][v] = -1
				changed = true
			}
		}
	}
	come(0, 0, have)
	for changed {
		changed = false
		for i, b := range slices.Backward(p) {
			for k, vals := range slices.Backward(at[i]) {
				if vals == nil {
					continue
				}
				if k < len(b.Code) {
					come(i, k+1, behind(b.Code[k], vals))
					continue
				}
				for _, to := range targets(b, vals) {
					come(to, 0, vals)
				}
			}
		}
	}
	return at
}

// folded is the program that the document describes, for the constants at each place.
func folded(p []api.Block, at [][][]int) []api.Block {
	q := make([]api.Block, len(p))
	for i, b := range p {
		if at[i][0] == nil {
			q[i] = api.Block{Test: -1, Then: -1}
			continue
		}
		q[i] = api.Block{Code: slices.Clone(b.Code), Test: b.Test, Then: b.Then, Else: b.Else}
		for k, s := range b.Code {
			if val := at[i][k+1][s.To]; val != -1 {
				q[i].Code[k] = api.Step{Op: api.ONum, To: s.To, Val: val}
			}
		}
		if vals := at[i][len(b.Code)]; b.Test != -1 && vals[b.Test] != -1 {
			q[i].Test, q[i].Then, q[i].Else = -1, targets(b, vals)[0], 0
		}
	}
	return q
}

// sameLists reports whether two lists of lists are the same.
func sameLists(a, b [][]int) bool { return slices.EqualFunc(a, b, slices.Equal) }

// P3: the arguments stay as they are, also beyond the length of a list, and results share no memory.
func TestMemory(t *testing.T) {
	p, changed := sample.WatchedProgram()
	values := []int{3, -1, 77}
	have := values[:2]
	for _, first := range []int{-1, 0, 3} {
		values[0] = first
		for range 2 {
			checkDefinitions(t, 2, p, have)
			in, _ := known.In(2, p, have)
			checkApart(t, in)
			q, _ := known.Fold(2, p, have)
			if sample.SharesCode(q) {
				t.Errorf("lists share memory: %v", q)
			}
		}
		if changed() || !slices.Equal(values, []int{first, -1, 77}) {
			t.Errorf("the arguments changed: %v, %v", p, values)
		}
	}
}

// checkApart overwrites a list of lists, and checks that no two of them share memory.
func checkApart(t *testing.T, lists [][]int) {
	t.Helper()
	for i, l := range lists {
		for k := range l[:cap(l)] {
			l[:cap(l)][k] = i
		}
	}
	for i, l := range lists {
		if slices.ContainsFunc(l[:cap(l)], func(v int) bool { return v != i }) {
			t.Errorf("lists share memory: %v", lists)
		}
	}
	clear(lists[:cap(lists)])
}
