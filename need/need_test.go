package need_test

import (
	"math"
	"math/bits"
	"slices"
	"testing"

	"codemason/api"
	"codemason/need"
	"codemason/sample"
)

// The tests write terms and steps with these.
var (
	num, variable, op   = sample.Num, sample.Var, sample.Op
	setNum, setVar, set = sample.SetNum, sample.SetVar, sample.SetOp
)

// B1: the document's example, and ordinary code.
func TestRun(t *testing.T) {
	for _, c := range []struct {
		name string
		vars int
		code []api.Step
		regs int
		have []int
		want []int
	}{
		{"example", 0, []api.Step{setNum(0, 5)}, 1, nil, []int{5}},
		{"no steps", 0, nil, 3, nil, []int{0, 0, 0}},
		{"no steps, all limits", 6, []api.Step{}, 8, []int{1, 2, 3, 4, 5, 255}, make([]int, 8)},
		{"initially 0", 0, []api.Step{set(api.OSub, 1, 0, 2), setNum(0, 1), set(api.OSub, 3, 4, 0)}, 5, nil,
			[]int{1, 0, 0, 255, 0}},
		{"numbers", 0, []api.Step{setNum(1, 0), setNum(0, 255)}, 2, []int{}, []int{255, 0}},
		{"variables", 6, []api.Step{setVar(7, 0), setVar(0, 5)}, 8, []int{9, 1, 2, 3, 4, 200},
			[]int{200, 0, 0, 0, 0, 0, 0, 9}},
		{"registers are not the variables", 2, []api.Step{setNum(1, 7), setVar(0, 1)}, 2, []int{3, 4}, []int{4, 7}},
		{"the last assignment counts", 0, []api.Step{setNum(0, 1), setNum(0, 2)}, 1, nil, []int{2}},
		{"to an operand", 0, []api.Step{setNum(0, 3), set(api.OMul, 0, 0, 0), set(api.OMul, 0, 0, 0)}, 1, nil, []int{81}},
		{"to the other operand", 0, []api.Step{setNum(0, 3), setNum(1, 1), set(api.OSub, 1, 0, 1), set(api.OSub, 1, 0, 1)}, 2, nil,
			[]int{3, 1}},
		{"the order of operands", 0, []api.Step{
			setNum(0, 3), setNum(1, 5), set(api.OLess, 2, 0, 1), set(api.OLess, 3, 1, 0), set(api.OSub, 4, 0, 1), set(api.OSub, 5, 1, 0),
		}, 6, nil, []int{3, 5, 1, 0, 254, 2}},
		{"most steps", 0, slices.Repeat([]api.Step{setNum(0, 9)}, api.MaxSteps), 1, nil, []int{9}},
	} {
		if r, e := need.Run(c.vars, c.code, c.regs, c.have); e != api.OK || !slices.Equal(r, c.want) {
			t.Errorf("%s: %v, %v, want %v", c.name, r, e, c.want)
		}
	}
}

// B1: the operations, with wraparound, for all pairs of values.
func TestRunOperations(t *testing.T) {
	for a := range api.MaxVal + 1 {
		for b := range api.MaxVal + 1 {
			code := []api.Step{setVar(1, 0), setVar(2, 1)}
			want := []int{0, a, b}
			for kind := api.OAdd; kind <= api.OLess; kind++ {
				code = append(code, set(kind, len(want), 1, 2))
				want = append(want, sample.Apply(kind, a, b))
			}
			if r, e := need.Run(2, code, api.MaxRegs, []int{a, b}); e != api.OK || !slices.Equal(r, append(want, 0)) {
				t.Fatalf("operations of %d and %d: %v, %v, want %v", a, b, r, e, want)
			}
		}
	}
}

// badRun is an invalid call of Run.
type badRun struct {
	name string
	vars int
	code []api.Step
	regs int
	have []int
	want api.Errno
}

func badRuns() []badRun {
	kind := api.Step{Op: 99, To: sample.Junk, A: sample.Junk, B: sample.Junk, Val: sample.Junk}
	value, arg := setNum(0, 256), setNum(5, 1)
	many := func(s api.Step) []api.Step { return slices.Repeat([]api.Step{s}, api.MaxSteps+1) }
	calls := []badRun{
		{"too many steps", 0, many(setNum(0, 1)), 1, nil, api.ErrLarge},
		{"too many before kind", 0, many(kind), 1, nil, api.ErrLarge},
		{"vars before kind", 7, []api.Step{kind}, 1, nil, api.ErrLarge},
		{"regs before kind", 0, []api.Step{kind}, 9, nil, api.ErrLarge},
		{"regs before have", 0, nil, 0, []int{1}, api.ErrLarge},
		{"kind before range of the same step", 0, []api.Step{{Op: 7, Val: 256}}, 1, nil, api.ErrKind},
		{"range before arg of the same step", 0, []api.Step{setNum(5, 256)}, 1, nil, api.ErrRange},
		{"variable before arg of the same step", 1, []api.Step{setVar(5, 1)}, 1, []int{1}, api.ErrRange},
		{"first is kind", 0, []api.Step{setNum(0, 1), kind, value, arg}, 1, nil, api.ErrKind},
		{"first is range", 0, []api.Step{value, arg, kind}, 1, nil, api.ErrRange},
		{"first is arg", 0, []api.Step{arg, kind, value}, 1, nil, api.ErrArg},
		{"kind before have", 1, []api.Step{kind}, 1, nil, api.ErrKind},
		{"range before have", 1, []api.Step{value}, 1, nil, api.ErrRange},
		{"arg before have", 1, []api.Step{arg}, 1, []int{-1}, api.ErrArg},
		{"range after a valid step", 0, append(slices.Repeat([]api.Step{setNum(0, 1)}, api.MaxSteps-1), value), 1, nil, api.ErrRange},
	}
	for _, c := range sample.BadHaves() {
		calls = append(calls, badRun{c.Name, c.Vars, nil, 1, c.Have, c.Want})
	}
	return calls
}

// B1: the errors of one step, and no value with an error.
func TestBadSteps(t *testing.T) {
	check := func(name string, vars, regs int, step api.Step, want api.Errno) {
		t.Helper()
		if e := need.CheckStep(vars, regs, step); e != want {
			t.Errorf("%s: CheckStep(%d, %d, %v) = %v, want %v", name, vars, regs, step, e, want)
		}
		have, vals := make([]int, vars), slices.Repeat([]int{7}, regs)
		if v, e := need.StepValue(step, vals, have); v != 0 || e != want {
			t.Errorf("%s: StepValue(%v, %v, %v) = %d, %v, want %v", name, step, vals, have, v, e, want)
		}
	}
	for vars := range 4 {
		for regs := range 4 {
			for _, c := range sample.BadSteps(max(vars, regs)) {
				if vars > 0 || c.Step.Op != api.OVar {
					check(c.Name, vars, regs, c.Step, c.Want)
				}
			}
			check("variable that there is not", vars, regs, setVar(0, vars), api.ErrRange)
			check("To that there is not", vars, regs, setNum(regs, 1), api.ErrArg)
			check("A that there is not", vars, regs, set(api.OAdd, 0, regs, 0), api.ErrArg)
			check("B that there is not", vars, regs, set(api.OAdd, 0, 0, regs), api.ErrArg)
			if vars > 0 && regs > 0 {
				check("valid", vars, regs, setVar(regs-1, vars-1), api.OK)
			}
		}
	}
}

// B1: what one step assigns.
func TestStepValue(t *testing.T) {
	vals, have := []int{3, 5, 255}, []int{9, 8}
	for _, c := range []struct {
		step api.Step
		want int
	}{
		{setNum(2, 255), 255}, {setVar(2, 0), 9}, {setVar(0, 1), 8}, {set(api.OAdd, 0, 1, 2), 4},
		{set(api.OSub, 1, 0, 1), 254}, {set(api.OMul, 0, 1, 1), 25}, {set(api.OLess, 2, 0, 1), 1}, {set(api.OLess, 2, 1, 0), 0},
	} {
		if v, e := need.StepValue(c.step, vals, have); v != c.want || e != api.OK {
			t.Errorf("StepValue(%v, %v, %v) = %d, %v, want %d", c.step, vals, have, v, e, c.want)
		}
	}
	if !slices.Equal(vals, []int{3, 5, 255}) || !slices.Equal(have, []int{9, 8}) {
		t.Errorf("arguments changed: %v, %v", vals, have)
	}
}

// badSteps are invalid calls of Run with all sorts of invalid numbers, with two variables and two registers.
func badSteps() []badRun {
	var calls []badRun
	step := func(name string, want api.Errno, s api.Step) {
		calls = append(calls, badRun{name, 2, []api.Step{setNum(0, 1), s, setNum(0, 1)}, 2, []int{1, 2}, want})
	}
	for _, kind := range []int{math.MinInt, -1, 0, api.OLess + 1, math.MaxInt} {
		step("kind", api.ErrKind, api.Step{Op: kind})
	}
	for _, v := range sample.Outside(api.MaxVal + 1) {
		step("number", api.ErrRange, setNum(0, v))
	}
	for _, v := range sample.Outside(2) {
		step("variable", api.ErrRange, setVar(0, v))
		step("To of a number", api.ErrArg, setNum(v, 1))
		step("To of a variable", api.ErrArg, setVar(v, 1))
		for kind := api.OAdd; kind <= api.OLess; kind++ {
			step("To", api.ErrArg, set(kind, v, 0, 0))
			step("A", api.ErrArg, set(kind, 0, v, 1))
			step("B", api.ErrArg, set(kind, 0, 1, v))
		}
	}
	for _, v := range sample.Outside(api.MaxVars + 1) {
		calls = append(calls, badRun{"vars", v, nil, 1, nil, api.ErrLarge})
	}
	for _, v := range append(sample.Outside(api.MaxRegs+1), 0) {
		calls = append(calls, badRun{"regs", 0, nil, v, nil, api.ErrLarge})
	}
	return calls
}

// B1: invalid calls, and the order of the errors.
func TestRunRejects(t *testing.T) {
	for _, c := range append(badRuns(), badSteps()...) {
		if r, e := need.Run(c.vars, c.code, c.regs, c.have); len(r) != 0 || e != c.want {
			t.Errorf("%s: Run(%d, %v, %d, %v) = %v, %v, want %v", c.name, c.vars, c.code, c.regs, c.have, r, e, c.want)
		}
	}
}

// B2: invalid lists, and lists that are not trees, for Need and, with any number of registers, Code.
func TestInvalidTrees(t *testing.T) {
	for _, c := range sample.BadTrees() {
		if k, e := need.Need(c.Vars, c.List); k != 0 || e != c.Want {
			t.Errorf("%s: Need(%d, %v) = %d, %v, want %v", c.Name, c.Vars, c.List, k, e, c.Want)
		}
		for regs := 1; regs <= api.MaxRegs; regs++ {
			if code, e := need.Code(c.Vars, c.List, regs); len(code) != 0 || e != c.Want {
				t.Errorf("%s: Code(%d, %v, %d) = %v, %v, want %v", c.Name, c.Vars, c.List, regs, code, e, c.Want)
			}
		}
		for _, regs := range append(sample.Outside(api.MaxRegs+1), 0) {
			if code, e := need.Code(c.Vars, c.List, regs); len(code) != 0 || e != api.ErrLarge {
				t.Errorf("%s: Code(%d, %v, %d) = %v, %v, want ErrLarge", c.Name, c.Vars, c.List, regs, code, e)
			}
		}
	}
}

// B2: the document's example, and trees whose need is easily seen.
func TestNeed(t *testing.T) {
	chain := func(left bool) []api.Term {
		l := []api.Term{variable(0)}
		for len(l)+2 <= api.MaxTerms {
			last := len(l) - 1
			l = append(l, num(1))
			if left {
				l = append(l, op(api.OSub, last, last+1))
			} else {
				l = append(l, op(api.OSub, last+1, last))
			}
		}
		return l
	}
	full := slices.Repeat([]api.Term{variable(1)}, 8)
	for i := 0; len(full) < 15; i += 2 {
		full = append(full, op(api.OMul, i+1, i))
	}
	for _, c := range []struct {
		name string
		l    []api.Term
		want int
	}{
		{"number", []api.Term{num(3)}, 1},
		{"variable", []api.Term{variable(1)}, 1},
		{"sum", []api.Term{variable(0), variable(1), op(api.OAdd, 0, 1)}, 2},
		{"product of two sums", []api.Term{
			variable(0), variable(1), op(api.OAdd, 0, 1), variable(0), variable(1), op(api.OAdd, 3, 4), op(api.OMul, 2, 5)}, 3},
		{"leaves first", []api.Term{
			num(1), num(2), num(3), num(4), op(api.OAdd, 0, 3), op(api.OAdd, 2, 1), op(api.OMul, 5, 4)}, 3},
		{"A needs more", []api.Term{num(1), num(2), op(api.OAdd, 0, 1), num(3), op(api.OLess, 2, 3)}, 2},
		{"B needs more", []api.Term{num(1), num(2), op(api.OAdd, 0, 1), num(3), op(api.OLess, 3, 2)}, 2},
		{"chain to the left", chain(true), 2},
		{"chain to the right", chain(false), 2},
		{"full", full, 4},
	} {
		if k, e := need.Need(2, c.l); k != c.want || e != api.OK {
			t.Errorf("%s: %d, %v, want %d", c.name, k, e, c.want)
		}
		checkTree(t, 2, c.l, [][]int{{0, 0}, {255, 1}, {3, 200}})
	}
}

// B2: all shapes of trees, in postorder.
func TestAllShapes(t *testing.T) {
	next := sample.Numbers()
	for leaves := 1; 2*leaves-1 <= api.MaxTerms; leaves++ {
		for _, l := range sample.Shapes(next, leaves) {
			checkTree(t, api.MaxVars, l, [][]int{{0, 0, 0, 0, 0, 0}, {255, 1, 2, 3, 4, 5}, {3, 200, 77, 9, 150, 31}})
		}
		if t.Failed() {
			return
		}
	}
}

// B2: trees in any order of terms, by a fixed rule.
func TestTreesInAnyOrder(t *testing.T) {
	next := sample.Numbers()
	for round := 0; round < 3000 && !t.Failed(); round++ {
		l := sample.Tree(next, 1+round%8)
		var haves [][]int
		for range 3 {
			haves = append(haves, []int{next(256), next(256), next(256), next(256), next(256), next(256)})
		}
		checkTree(t, api.MaxVars, l, haves)
	}
}

// checkTree checks what Need and Code promise for a tree.
func checkTree(t *testing.T, vars int, l []api.Term, haves [][]int) {
	t.Helper()
	want := fewest(l)
	if k, e := need.Need(vars, l); k != want || e != api.OK {
		t.Fatalf("Need(%v) = %d, %v, want %d", l, k, e, want)
	}
	for regs := 1; regs <= api.MaxRegs; regs++ {
		code, e := need.Code(vars, l, regs)
		if regs < want {
			if len(code) != 0 || e != api.ErrNone {
				t.Fatalf("Code(%v, %d) = %v, %v, want ErrNone", l, regs, code, e)
			}
			continue
		}
		if e != api.OK || len(code) != len(l) {
			t.Fatalf("Code(%v, %d) = %v, %v: not a step for each term", l, regs, code, e)
		}
		for _, have := range haves {
			want := sample.Reckon(l, len(l)-1, have)
			if got, ok := execute(code, regs, have); !ok || got != want {
				t.Fatalf("Code(%v, %d) = %v: %v instead of %d for %v", l, regs, code, got, want, have)
			}
			if r, e := need.Run(vars, code, regs, have); e != api.OK || len(r) != regs || r[0] != want {
				t.Fatalf("Run(%v, %d, %v) = %v, %v, want %d in register 0", code, regs, have, r, e, want)
			}
		}
	}
}

// fewest returns the least number of registers with which the terms can be computed in some order, each once.
func fewest(l []api.Term) int {
	operands := make([]uint, len(l))
	for i, x := range l {
		if x.Op != api.ONum && x.Op != api.OVar {
			operands[i] = 1<<x.A | 1<<x.B
		}
	}
	for regs := 1; ; regs++ {
		seen := map[uint]bool{}
		// try reports whether all can be computed when the terms of done have been, and those of kept are in registers.
		var try func(done, kept uint) bool
		try = func(done, kept uint) bool {
			if done == 1<<len(l)-1 {
				return true
			}
			if seen[done] {
				return false
			}
			seen[done] = true
			for i, from := range operands {
				after := kept&^from | 1<<i
				if done>>i&1 == 0 && from&^kept == 0 && bits.OnesCount(after) <= regs && try(done|1<<i, after) {
					return true
				}
			}
			return false
		}
		if try(0, 0) {
			return regs
		}
	}
}

// execute returns what code leaves in register 0, and whether it uses only registers that there are.
func execute(code []api.Step, regs int, have []int) (int, bool) {
	r := map[int]int{}
	for i := range regs {
		r[i] = 99 // The value must not depend on what the registers had.
	}
	for _, s := range code {
		switch s.Op {
		case api.ONum:
			r[s.To] = s.Val
		case api.OVar:
			r[s.To] = have[s.Val]
		default:
			r[s.To] = sample.Apply(s.Op, r[s.A], r[s.B])
		}
		if len(r) != regs {
			return 0, false
		}
	}
	return r[0], true
}

// P3: arguments stay as they are, also beyond their length, and results share no memory.
func TestMemory(t *testing.T) {
	terms := []api.Term{variable(0), num(1), op(api.OSub, 0, 1), op(api.OAdd, 0, 0), num(300)}
	steps := []api.Step{setVar(1, 0), set(api.OAdd, 0, 1, 1), setNum(9, 300)}
	values := []int{5, 300}
	wantTerms, wantSteps, wantValues := slices.Clone(terms), slices.Clone(steps), slices.Clone(values)
	l, code, have := terms[:3], steps[:2], values[:1]
	if k, e := need.Need(1, l); k != 2 || e != api.OK {
		t.Error(k, e)
	}
	for range 2 {
		r, e := need.Run(1, code, 2, have)
		if e != api.OK || !slices.Equal(r, []int{10, 5}) {
			t.Error(r, e)
		}
		clear(r[:cap(r)])
		c, e := need.Code(1, l, 2)
		if v, ok := execute(c, 2, have); e != api.OK || !ok || v != 4 {
			t.Error(c, e, v)
		}
		clear(c[:cap(c)])
	}
	if !slices.Equal(terms, wantTerms) || !slices.Equal(steps, wantSteps) || !slices.Equal(values, wantValues) {
		t.Errorf("arguments changed: %v, %v, %v", terms, steps, values)
	}
}
