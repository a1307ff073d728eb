package weak_test

import (
	"math"
	"slices"
	"testing"

	"codemason/api"
	"codemason/sample"
	"codemason/term"
	"codemason/weak"
)

// The tests write terms and steps with these.
var (
	num, variable, op   = sample.Num, sample.Var, sample.Op
	setNum, setVar, set = sample.SetNum, sample.SetVar, sample.SetOp
)

// checkAheadFails checks that Ahead returns this error.
func checkAheadFails(t *testing.T, name string, vars int, code []api.Step, post []api.Term, want api.Errno) {
	t.Helper()
	if l, e := weak.Ahead(vars, code, post); len(l) != 0 || e != want {
		t.Errorf("%s: Ahead(%d, %v, %v) = %v, %v, want an empty list, %v", name, vars, code, post, l, e, want)
	}
}

// checkHoldsFails checks that Holds returns this error.
func checkHoldsFails(t *testing.T, name string, vars int, pre []api.Term, code []api.Step, post []api.Term, have []int, want api.Errno) {
	t.Helper()
	if is, e := weak.Holds(vars, pre, code, post, have); is || e != want {
		t.Errorf("%s: Holds(%d, %v, %v, %v, %v) = %v, %v, want false, %v", name, vars, pre, code, post, have, is, e, want)
	}
}

// checkBothFail checks that both functions return this error whatever the lists and the values are.
func checkBothFail(t *testing.T, name string, vars int, code []api.Step, want api.Errno) {
	t.Helper()
	lists := [][]api.Term{{num(0)}, nil, {variable(99)}, {op(99, 0, 0)}, {op(api.OAdd, 0, 0)}}
	for _, post := range lists {
		checkAheadFails(t, name, vars, code, post, want)
		for _, pre := range lists {
			for _, have := range [][]int{{0, 0}, {0}, nil, {0, 256}} {
				checkHoldsFails(t, name, vars, pre, code, post, have, want)
			}
		}
	}
}

// S1: numbers of variables and of steps that are too small or too large, before all other errors.
func TestLarge(t *testing.T) {
	for _, vars := range append(sample.Outside(api.MaxVars+1), 0) {
		for _, code := range [][]api.Step{nil, {setNum(0, 1)}, {{Op: 99}}, {setNum(0, 256)}, {setNum(9, 1)}} {
			checkBothFail(t, "vars", vars, code, api.ErrLarge)
		}
	}
	for _, s := range []api.Step{setNum(0, 1), {Op: 99}, setNum(0, 256), setNum(9, 1)} {
		for _, count := range []int{api.MaxLines + 1, api.MaxSteps, 1000} {
			checkBothFail(t, "too many steps", 2, slices.Repeat([]api.Step{s}, count), api.ErrLarge)
		}
	}
}

// S1: invalid steps, at each place, before what is wrong in the lists and the values; the first one counts.
func TestInvalidSteps(t *testing.T) {
	for _, c := range sample.BadSteps(2) {
		for _, count := range []int{1, 2, api.MaxLines} {
			for _, at := range []int{0, count / 2, count - 1} {
				code := slices.Repeat([]api.Step{set(api.OAdd, 0, 1, 1)}, count)
				code[at] = c.Step
				checkBothFail(t, c.Name, 2, code, c.Want)
			}
		}
		for _, d := range sample.BadSteps(2) {
			checkAheadFails(t, c.Name+", then "+d.Name, 2, []api.Step{c.Step, d.Step}, []api.Term{num(1)}, c.Want)
		}
	}
}

// S1: invalid lists: pre before post, and both before the values.
func TestInvalidLists(t *testing.T) {
	right := []api.Term{num(0)}
	for vars := 1; vars <= 2; vars++ {
		for _, c := range sample.BadLists() {
			want := term.Check(vars, c.List)
			if want == api.OK {
				continue
			}
			code := []api.Step{setNum(0, 1)}
			checkAheadFails(t, c.Name, vars, nil, c.List, want)
			checkAheadFails(t, c.Name, vars, code, c.List, want)
			for _, have := range [][]int{make([]int, vars), nil, {-1, 256}, {-1}} {
				checkHoldsFails(t, "post: "+c.Name, vars, right, code, c.List, have, want)
				for _, post := range [][]api.Term{right, nil, {num(256)}, {op(99, 0, 0)}, {op(api.OAdd, 0, 0)}} {
					checkHoldsFails(t, "pre: "+c.Name, vars, c.List, code, post, have, want)
				}
			}
		}
	}
}

// S1: invalid values, whether pre is true or not.
func TestInvalidValues(t *testing.T) {
	for _, c := range sample.BadHaves() {
		if c.Vars == 0 {
			continue
		}
		for _, pre := range []api.Term{num(0), num(1), variable(0)} {
			for _, code := range [][]api.Step{nil, {setNum(0, 1)}} {
				checkHoldsFails(t, c.Name, c.Vars, []api.Term{pre}, code, []api.Term{num(1)}, c.Have, c.Want)
			}
		}
	}
}

// S1: steps and lists that are easily followed, the document's example first.
func TestAhead(t *testing.T) {
	haves := [][]int{{0, 0, 0}, {1, 0, 0}, {0, 1, 2}, {7, 200, 3}, {255, 1, 254}, {128, 128, 128}}
	for _, c := range []struct {
		name string
		code []api.Step
		post []api.Term
		want func(x, y, z uint8) uint8
	}{
		{"example", []api.Step{set(api.OAdd, 0, 0, 1)}, []api.Term{variable(0)}, func(x, y, z uint8) uint8 { return x + y }},
		{"no steps", nil, []api.Term{variable(0), variable(2), op(api.OSub, 0, 1)}, func(x, y, z uint8) uint8 { return x - z }},
		{"a number", nil, []api.Term{num(255)}, func(x, y, z uint8) uint8 { return 255 }},
		{"a variable set to a number", []api.Step{setNum(0, 7)}, []api.Term{variable(0)}, func(x, y, z uint8) uint8 { return 7 }},
		{"a variable set to another one", []api.Step{setVar(0, 1)}, []api.Term{variable(0)}, func(x, y, z uint8) uint8 { return y }},
		{"a variable set to itself", []api.Step{setVar(0, 0)}, []api.Term{variable(0)}, func(x, y, z uint8) uint8 { return x }},
		{"a variable that is not set", []api.Step{setNum(0, 7), set(api.OAdd, 1, 0, 1)}, []api.Term{variable(2)}, func(x, y, z uint8) uint8 { return z }},
		{"the value before it is set", []api.Step{setVar(1, 0), setNum(0, 7)}, []api.Term{variable(1)}, func(x, y, z uint8) uint8 { return x }},
		{"the value behind the last step that sets it", []api.Step{setNum(0, 7), setVar(0, 1), setVar(0, 2)}, []api.Term{variable(0)}, func(x, y, z uint8) uint8 { return z }},
		{"exchanged", []api.Step{set(api.OAdd, 0, 0, 1), set(api.OSub, 1, 0, 1), set(api.OSub, 0, 0, 1)},
			[]api.Term{variable(0), variable(1), op(api.OSub, 0, 1)}, func(x, y, z uint8) uint8 { return y - x }},
		{"the order of operands", []api.Step{set(api.OSub, 0, 1, 2)}, []api.Term{num(9), variable(0), op(api.OSub, 0, 1)}, func(x, y, z uint8) uint8 { return 9 - (y - z) }},
		{"a product of sums", []api.Step{set(api.OAdd, 0, 0, 1), set(api.OAdd, 2, 1, 0), set(api.OMul, 1, 0, 2)}, []api.Term{variable(1)},
			func(x, y, z uint8) uint8 { return (x + y) * (y + (x + y)) }},
		{"not the last but an earlier term is the same", nil, []api.Term{variable(0), variable(1), variable(0)}, func(x, y, z uint8) uint8 { return x }},
		{"a step has what post reckons again", []api.Step{set(api.OMul, 0, 1, 2)},
			[]api.Term{variable(1), variable(2), op(api.OMul, 0, 1), variable(0), op(api.OSub, 2, 3)}, func(x, y, z uint8) uint8 { return 0 }},
		{"terms that do not matter", []api.Step{set(api.OMul, 0, 1, 2)}, []api.Term{variable(0), num(3), op(api.OAdd, 0, 1), variable(2)},
			func(x, y, z uint8) uint8 { return z }},
	} {
		checkAhead(t, 3, c.code, c.post, haves)
		l, e := weak.Ahead(3, c.code, c.post)
		for _, have := range haves {
			want := int(c.want(uint8(have[0]), uint8(have[1]), uint8(have[2])))
			if v := valueOf(l, have); v != want || e != api.OK {
				t.Errorf("%s: Ahead(3, %v, %v) = %v, %v, which is %d for %v, want %d", c.name, c.code, c.post, l, e, v, have, want)
			}
		}
	}
}

// S1: pre and post that are true or not, with a value of 1 or any other one.
func TestHolds(t *testing.T) {
	x, y := []api.Term{variable(0)}, []api.Term{variable(1)}
	add := []api.Step{set(api.OAdd, 0, 0, 1)}
	for _, c := range []struct {
		name      string
		pre, post []api.Term
		code      []api.Step
		have      []int
		want      bool
	}{
		{"neither is true", x, x, add, []int{0, 0}, true},
		{"only pre is true", x, x, add, []int{1, 255}, false},
		{"only pre is true, as 255", x, x, add, []int{255, 1}, false},
		{"only post is true", x, x, add, []int{0, 1}, true},
		{"both are true", x, x, add, []int{1, 1}, true},
		{"both are true, as 2 and 4", x, x, add, []int{2, 2}, true},
		{"both are true, as 254 and 255", x, x, add, []int{254, 1}, true},
		{"pre is true before the steps, not behind them", x, y, []api.Step{setNum(0, 0)}, []int{5, 0}, false},
		{"pre is true behind the steps, not before them", x, y, []api.Step{setNum(0, 5)}, []int{0, 0}, true},
		{"post is true before the steps, not behind them", x, y, []api.Step{setNum(1, 0)}, []int{5, 6}, false},
		{"post is true behind the steps, not before them", x, y, []api.Step{setNum(1, 1)}, []int{5, 0}, true},
		{"no steps, true", x, x, nil, []int{5, 0}, true},
		{"no steps, not true", x, y, nil, []int{5, 0}, false},
		{"always and never", []api.Term{num(1)}, []api.Term{num(0)}, nil, []int{1, 1}, false},
		{"never and never", []api.Term{num(0)}, []api.Term{num(0)}, nil, []int{1, 1}, true},
		{"the last term is what counts", []api.Term{num(0), num(1)}, []api.Term{num(1), num(0)}, nil, []int{1, 1}, false},
	} {
		if is, e := weak.Holds(2, c.pre, c.code, c.post, c.have); is != c.want || e != api.OK {
			t.Errorf("%s: Holds(2, %v, %v, %v, %v) = %v, %v, want %v", c.name, c.pre, c.code, c.post, c.have, is, e, c.want)
		}
		checkHolds(t, 2, c.pre, c.code, c.post, c.have)
	}
}

// S1: the operations, with wraparound, for all pairs of values: in a step, and in the lists.
func TestOperations(t *testing.T) {
	var haves [][]int
	for x := range api.MaxVal + 1 {
		for y := range api.MaxVal + 1 {
			haves = append(haves, []int{x, y})
		}
	}
	for kind := api.OAdd; kind <= api.OLess; kind++ {
		l := []api.Term{variable(0), variable(1), op(kind, 0, 1)}
		checkAhead(t, 2, []api.Step{set(kind, 0, 0, 1)}, []api.Term{variable(0)}, haves)
		checkAhead(t, 2, []api.Step{setVar(0, 0)}, l, haves)
		for _, have := range haves {
			checkHolds(t, 2, l, []api.Step{setNum(0, 1)}, []api.Term{num(0)}, have)
		}
	}
}

// S1: the limits of variables, steps, terms and numbers.
func TestLimits(t *testing.T) {
	haves := [][]int{{0, 0, 0, 0, 0, 0}, {1, 2, 3, 4, 5, 255}, {255, 255, 255, 255, 255, 254}, {9, 80, 70, 200, 3, 17}}
	most := slices.Repeat([]api.Step{setNum(0, 255), setVar(5, 5)}, api.MaxLines/2)
	checkAhead(t, api.MaxVars, most, slices.Repeat([]api.Term{variable(5)}, api.MaxTerms), haves)
	checkAhead(t, 1, nil, []api.Term{num(0)}, [][]int{{0}, {255}})
	for _, have := range haves {
		checkHolds(t, api.MaxVars, slices.Repeat([]api.Term{num(255)}, api.MaxTerms), most, slices.Repeat([]api.Term{variable(5)}, api.MaxTerms), have)
	}
}

// S1: doubled again and again, in steps and in terms, a value would be reckoned more than 2 to the 30th times if each use did it again.
func TestSharing(t *testing.T) {
	for kind := api.OAdd; kind <= api.OLess; kind++ {
		code := slices.Repeat([]api.Step{set(kind, 0, 0, 0)}, api.MaxLines)
		post := []api.Term{variable(0)}
		for i := range api.MaxTerms - 1 {
			post = append(post, op(kind, i, i))
		}
		checkAhead(t, 1, code, post, [][]int{{0}, {1}, {3}, {255}})
	}
}

// S1: a list may have more than MaxTerms terms: here each step and each term adds one.
func TestLongResult(t *testing.T) {
	var code []api.Step
	for i := range api.MaxLines {
		code = append(code, set(api.OAdd+i%3, 1+i%2, 2-i%2, i%6))
	}
	post := []api.Term{variable(1)}
	for i := range api.MaxTerms - 1 {
		post = append(post, op(api.OSub, i, i/2))
	}
	checkAhead(t, api.MaxVars, code, post, [][]int{{1, 2, 3, 4, 5, 6}, {9, 80, 70, 200, 3, 17}, {255, 0, 1, 7, 254, 2}})
	if l, e := weak.Ahead(api.MaxVars, code, post); len(l) <= api.MaxTerms || e != api.OK {
		t.Errorf("Ahead(%v, %v) = %v, %v, want more than %d terms", code, post, l, e, api.MaxTerms)
	}
}

// S1: what is in fields that are not used does not matter.
func TestUnusedFields(t *testing.T) {
	for _, junk := range []int{0, 1, -1, 99, math.MaxInt, math.MinInt} {
		code := []api.Step{
			{Op: api.ONum, To: 0, A: junk, B: junk, Val: 3},
			{Op: api.OVar, To: 1, A: junk, B: junk, Val: 0},
			{Op: api.OMul, To: 0, A: 0, B: 1, Val: junk},
		}
		post := []api.Term{{Op: api.OVar, A: junk, B: junk, Val: 0}, {Op: api.ONum, A: junk, B: junk, Val: 3}, {Op: api.OLess, A: 1, B: 0, Val: junk}}
		checkAhead(t, 2, code, post, [][]int{{0, 0}, {5, 9}})
		checkHolds(t, 2, post, code, post, []int{5, 9})
		checkHolds(t, 2, post, code, post[:2], []int{0, 9})
	}
}

// P3: the arguments stay as they are, also beyond their length, and results share no memory.
func TestMemory(t *testing.T) {
	terms := []api.Term{variable(0), num(1), op(api.OSub, 0, 1), num(300)}
	others := []api.Term{variable(1), variable(0), op(99, 0, 0)}
	steps := []api.Step{setVar(1, 0), setNum(1, 4), set(api.OAdd, 0, 0, 1), setNum(9, 300)}
	values := []int{5, 6, 300}
	wantTerms, wantOthers, wantSteps, wantValues := slices.Clone(terms), slices.Clone(others), slices.Clone(steps), slices.Clone(values)
	post, pre, code, have := terms[:3], others[:2], steps[:3], values[:2]
	for range 2 {
		checkAhead(t, 2, code, post, [][]int{have})
		checkHolds(t, 2, pre, code, post, have)
		l, _ := weak.Ahead(2, code, post)
		again, _ := weak.Ahead(2, code, post)
		clear(l[:cap(l)])
		if !isPlain(2, again) || valueOf(again, have) != 8 {
			t.Errorf("two results share memory: %v", again)
		}
	}
	if !slices.Equal(terms, wantTerms) || !slices.Equal(others, wantOthers) || !slices.Equal(steps, wantSteps) || !slices.Equal(values, wantValues) {
		t.Errorf("the arguments changed: %v, %v, %v, %v", terms, others, steps, values)
	}
}
