package shape_test

import (
	"math"
	"slices"
	"testing"

	"codemason/api"
	"codemason/sample"
	"codemason/shape"
)

// badShape is a structured program that is invalid.
type badShape struct {
	name string
	vars int
	list []api.Shape
	want api.Errno
}

// wrap is a way in which a list may be inside of a statement.
type wrap struct {
	name string
	wrap func(l []api.Shape) api.Shape
}

// wraps lists all ways in which a list may be inside of a statement: at first those where the kind uses it.
func wraps() []wrap {
	return []wrap{
		{"Then of SBoth", func(l []api.Shape) api.Shape { return both(0, l, nil) }},
		{"Else of SBoth", func(l []api.Shape) api.Shape { return both(0, nil, l) }},
		{"Then of SWhile", func(l []api.Shape) api.Shape { return while(0, l...) }},
		{"Else of SWhile", func(l []api.Shape) api.Shape { return api.Shape{Kind: api.SWhile, Else: l} }},
		{"Then of SCode", func(l []api.Shape) api.Shape { return api.Shape{Kind: api.SCode, Then: l} }},
		{"Else of SCode", func(l []api.Shape) api.Shape { return api.Shape{Kind: api.SCode, Else: l} }},
	}
}

// nested puts a list so many times into a statement.
func nested(l []api.Shape, times int, wrap func(l []api.Shape) api.Shape) []api.Shape {
	for range times {
		l = list(wrap(l))
	}
	return l
}

// U1, U2: numbers of variables that are not allowed, before what is wrong in a statement.
func TestInvalidVars(t *testing.T) {
	for _, vars := range append(sample.Outside(api.MaxVars+1), 0) {
		for _, l := range [][]api.Shape{nil, {}, list(code()), list(api.Shape{}), list(while(9)), list(code(api.Step{}))} {
			checkRejected(t, "vars", vars, l, api.ErrLarge)
		}
	}
}

// U1, U2: too much of something, before what is wrong in a statement.
func TestLargeShapes(t *testing.T) {
	wrong := api.Shape{Kind: 4}
	most := slices.Repeat(list(code()), api.MaxNodes)
	full := code(slices.Repeat([]api.Step{setNum(0, 1)}, api.MaxLines)...)
	one := code(setNum(0, 1))
	bad := []badShape{
		{"too many statements", 1, append(slices.Clone(most), code()), api.ErrLarge},
		{"too many statements before kind", 1, append(slices.Clone(most), wrong), api.ErrLarge},
		{"too many statements in an invalid one", 1, list(api.Shape{Kind: 4, Then: most}), api.ErrLarge},
		{"too many statements in Else of an invalid one", 1, list(api.Shape{Kind: 4, Else: most}), api.ErrLarge},
		{"too many statements on both sides", 1, list(both(0, most[:4], most[:4])), api.ErrLarge},
		{"the same list on both sides", 1, list(both(0, list(while(0, most[:2]...)), list(while(0, most[:2]...))), code(), code()), api.ErrLarge},
		{"too many steps", 1, list(full, one), api.ErrLarge},
		{"too many steps of one statement", 1, list(code(append(full.Code, api.Step{})...)), api.ErrLarge},
		{"too many steps before kind", 1, list(wrong, one, full), api.ErrLarge},
		{"too many steps of an invalid statement", 1, list(api.Shape{Code: append(full.Code, setNum(0, 1))}), api.ErrLarge},
		{"too many steps of both sides", 1, list(both(0, list(full), list(one))), api.ErrLarge},
		{"too many steps of an SBoth", 1, list(api.Shape{Kind: api.SBoth, Code: append(full.Code, setNum(0, 1))}), api.ErrLarge},
		{"too many steps of an SWhile", 1, list(api.Shape{Kind: api.SWhile, Code: full.Code}, one), api.ErrLarge},
		{"too many steps of many statements", 1, slices.Repeat(list(code(full.Code[:3]...)), 7), api.ErrLarge},
	}
	for _, c := range wraps() {
		bad = append(bad,
			badShape{"too many statements: " + c.name, 1, list(c.wrap(most)), api.ErrLarge},
			badShape{"too many statements behind: " + c.name, 1, append(list(c.wrap(most[:7])), wrong), api.ErrLarge},
			badShape{"too many steps: " + c.name, 1, list(c.wrap(list(one)), full), api.ErrLarge},
			badShape{"too many steps deep: " + c.name, 1, append(nested(list(full), 4, c.wrap), one), api.ErrLarge},
			badShape{"too deep: " + c.name, 1, nested(list(code()), 5, c.wrap), api.ErrLarge},
			badShape{"too deep before kind: " + c.name, 1, append(list(wrong), nested(list(code()), 5, c.wrap)...), api.ErrLarge},
			badShape{"too deep in an invalid statement: " + c.name, 1, list(api.Shape{Kind: 4, Else: nested(list(code()), 4, c.wrap)}), api.ErrLarge},
			badShape{"a long way down: " + c.name, 1, nested(nil, 1<<16, c.wrap), api.ErrLarge})
	}
	for _, c := range bad {
		checkRejected(t, c.name, c.vars, c.list, c.want)
	}
}

// P1: lists that contain themselves.
func TestEndlessShapes(t *testing.T) {
	for _, c := range wraps() {
		l := list(code())
		l[0] = c.wrap(l)
		checkRejected(t, c.name, 1, l, api.ErrLarge)
		two := list(while(0, code()), while(0, code()))
		two[0], two[1] = c.wrap(two), both(0, two, two)
		checkRejected(t, c.name, 1, two, api.ErrLarge)
	}
}

// U1, U2: one invalid statement among valid ones, at each place, also in lists that are not used.
func TestInvalidStatements(t *testing.T) {
	var bad []badShape
	for _, kind := range []int{math.MinInt, -1, 0, api.SWhile + 1, math.MaxInt} {
		bad = append(bad, badShape{"kind", 2, list(api.Shape{Kind: kind, Test: 9, Code: []api.Step{{}}, Then: list(while(5))}), api.ErrKind})
	}
	for _, c := range sample.BadSteps(2) {
		bad = append(bad, badShape{c.Name, 2, list(code(setNum(0, 1), c.Step, setVar(0, 1))), c.Want})
	}
	for _, test := range sample.Outside(2) {
		bad = append(bad,
			badShape{"Test of SBoth", 2, list(both(test, nil, nil)), api.ErrArg},
			badShape{"Test of SWhile", 2, list(while(test)), api.ErrArg})
	}
	fine := both(1, list(code(setNum(1, 255))), list(while(0)))
	for _, c := range bad {
		checkRejected(t, c.name, c.vars, c.list, c.want)
		checkRejected(t, c.name+" behind others", c.vars, append(list(fine), c.list...), c.want)
		checkRejected(t, c.name+" before others", c.vars, append(slices.Clone(c.list), fine), c.want)
		for _, w := range wraps() {
			for times := 1; times <= 3; times++ {
				checkRejected(t, c.name+" in "+w.name, c.vars, append(nested(c.list, times, w.wrap), code()), c.want)
			}
		}
	}
}

// U1, U2: several invalid statements, of which the first one counts.
func TestFirstInvalidStatement(t *testing.T) {
	kind, value, arg := api.Shape{Kind: 4}, code(setNum(0, 256)), code(setNum(1, 0))
	for _, c := range []badShape{
		{"kind", 1, list(code(), kind, value, arg), api.ErrKind},
		{"range", 1, list(value, arg, kind), api.ErrRange},
		{"arg", 1, list(arg, kind, value), api.ErrArg},
		{"Test", 1, list(while(1), kind, value), api.ErrArg},
		{"first step", 1, list(code(setNum(0, 256), setNum(1, 0), api.Step{})), api.ErrRange},
		{"last step", 1, list(code(setNum(0, 255), setNum(0, 0), api.Step{})), api.ErrKind},
		{"Test before Then of SBoth", 1, list(both(1, list(kind), nil)), api.ErrArg},
		{"Test before Else of SBoth", 1, list(both(-1, nil, list(kind))), api.ErrArg},
		{"Test before Then of SWhile", 1, list(while(1, kind)), api.ErrArg},
		{"kind before Then", 1, list(api.Shape{Then: list(value), Else: list(arg)}), api.ErrKind},
		{"Then before Else", 1, list(both(0, list(value), list(kind))), api.ErrRange},
		{"Else where Then is valid", 1, list(both(0, list(code()), list(kind))), api.ErrKind},
		{"Then before what follows", 1, list(both(0, list(value), nil), kind), api.ErrRange},
		{"Else before what follows", 1, list(both(0, nil, list(value)), kind), api.ErrRange},
		{"a body before what follows", 1, list(while(0, code(), arg), kind), api.ErrArg},
		{"what follows where the body is valid", 1, list(while(0, code()), kind, arg), api.ErrKind},
		{"deep in Then before Else", 1, list(both(0, list(while(0, both(0, nil, list(value)))), list(kind))), api.ErrRange},
		{"Then of SWhile before its Else", 1, list(api.Shape{Kind: api.SWhile, Then: list(arg), Else: list(kind)}), api.ErrArg},
		{"Test before Else of SWhile", 1, list(api.Shape{Kind: api.SWhile, Test: 1, Else: list(kind)}), api.ErrArg},
		{"Else of SWhile before what follows", 1, list(api.Shape{Kind: api.SWhile, Else: list(kind)}, value), api.ErrKind},
		{"steps before Then of SCode", 1, list(api.Shape{Kind: api.SCode, Code: value.Code, Then: list(kind)}), api.ErrRange},
		{"steps before Else of SCode", 1, list(api.Shape{Kind: api.SCode, Code: arg.Code, Else: list(kind)}), api.ErrArg},
		{"Then of SCode before its Else", 1, list(api.Shape{Kind: api.SCode, Then: list(value), Else: list(kind)}), api.ErrRange},
		{"Then of SCode before what follows", 1, list(api.Shape{Kind: api.SCode, Then: list(arg)}, kind), api.ErrArg},
		{"Else of SCode before what follows", 1, list(api.Shape{Kind: api.SCode, Then: list(code()), Else: list(value)}, kind), api.ErrRange},
		{"lists that are not used in each other", 1, list(api.Shape{Kind: api.SWhile, Else: list(
			api.Shape{Kind: api.SCode, Then: list(both(0, list(arg), list(kind))), Else: list(value)})}, kind), api.ErrArg},
		{"steps of SBoth in a list that is not used", 1, list(
			api.Shape{Kind: api.SCode, Then: list(api.Shape{Kind: api.SBoth, Code: value.Code})}, kind), api.ErrKind},
		{"steps of SBoth", 1, list(api.Shape{Kind: api.SBoth, Code: value.Code}, kind), api.ErrKind},
	} {
		checkRejected(t, c.name, c.vars, c.list, c.want)
		if e := errorOf(c.vars, c.list); e != c.want {
			t.Errorf("%s: the definition yields %v, want %v", c.name, e, c.want)
		}
	}
}

// U1: structured programs that are valid, at the limits and with anything in a Test or in steps that are not used.
func TestValidShapes(t *testing.T) {
	most := slices.Repeat(list(code()), api.MaxNodes)
	full := slices.Repeat([]api.Step{setNum(0, 1)}, api.MaxLines)
	type valid struct {
		name string
		vars int
		list []api.Shape
	}
	cases := []valid{
		{"nil", 1, nil},
		{"empty", 6, list()},
		{"most statements", 1, most},
		{"most steps", 1, list(code(full...))},
		{"most steps of many statements", 1, list(code(full[:7]...), both(0, list(code(full[:7]...)), list(code(full[:6]...))))},
		{"most variables", 6, list(while(5, code(setVar(5, 5), set(api.OLess, 5, 5, 5))), both(5, nil, nil))},
		{"smallest and greatest number", 1, list(code(setNum(0, 0), setNum(0, 255)))},
		{"any Test of SCode", 1, list(api.Shape{Kind: api.SCode, Test: math.MaxInt}, api.Shape{Kind: api.SCode, Test: math.MinInt})},
		{"any steps of SBoth and SWhile", 1, list(
			api.Shape{Kind: api.SBoth, Code: []api.Step{{}, setNum(9, 256)}}, api.Shape{Kind: api.SWhile, Code: []api.Step{{}, setVar(9, 9)}})},
		{"most on both sides", 1, list(both(0, most[:3], most[:4]))},
	}
	for _, c := range wraps() {
		cases = append(cases,
			valid{"most statements: " + c.name, 1, list(c.wrap(most[:7]))},
			valid{"most steps: " + c.name, 1, list(c.wrap(list(code(full...))))},
			valid{"deepest: " + c.name, 1, nested(list(code()), 4, c.wrap)},
			valid{"deepest with an empty list inside: " + c.name, 1, nested(list(), 5, c.wrap)},
			valid{"deepest with most statements: " + c.name, 1, nested(most[:4], 4, c.wrap)})
	}
	for _, c := range cases {
		if e := shape.Check(c.vars, c.list); e != api.OK {
			t.Errorf("%s: Check(%d, %v) = %v, want OK", c.name, c.vars, c.list, e)
		}
		if e := errorOf(c.vars, c.list); e != api.OK {
			t.Errorf("%s: the definition yields %v, want OK", c.name, e)
		}
		haves := [][]int{make([]int, c.vars), slices.Repeat([]int{7}, c.vars)}
		for _, have := range haves {
			checkRun(t, c.vars, c.list, have)
		}
		checkFlat(t, c.vars, c.list, haves, 200)
	}
}

// U1: invalid initial values, before a structured program that does not stop.
func TestInvalidValues(t *testing.T) {
	for _, c := range sample.BadHaves() {
		if c.Vars == 0 {
			continue
		}
		for _, l := range [][]api.Shape{nil, list(code()), list(code(setNum(0, 1)), while(0))} {
			if vals, e := shape.Run(c.Vars, l, c.Have); len(vals) != 0 || e != c.Want {
				t.Errorf("%s: Run(%d, %v, %v) = %v, %v, want %v", c.Name, c.Vars, l, c.Have, vals, e, c.Want)
			}
		}
	}
}

// U1: structured programs whose execution is easily seen.
func TestRun(t *testing.T) {
	one, down := setNum(1, 1), set(api.OSub, 0, 0, 1)
	two, three := list(code(setNum(1, 2))), list(code(setNum(1, 3)))
	for _, c := range []struct {
		name string
		l    []api.Shape
		have []int
		want []int
		err  api.Errno
	}{
		{"nothing", nil, []int{7, 0}, []int{7, 0}, api.OK},
		{"SCode without steps", list(code()), []int{7}, []int{7}, api.OK},
		{"steps in order", list(code(setNum(0, 1), setVar(1, 0), setNum(0, 3))), []int{7, 8}, []int{3, 1}, api.OK},
		{"statements in order", list(code(setNum(0, 1)), code(setVar(1, 0)), code(setNum(0, 3))), []int{7, 8}, []int{3, 1}, api.OK},
		{"variables are the registers", list(code(setVar(1, 0), setNum(0, 3), setVar(2, 0))), []int{7, 8, 9}, []int{3, 7, 3}, api.OK},
		{"Then of 1", list(both(0, two, three)), []int{1, 0}, []int{1, 2}, api.OK},
		{"Then of 255", list(both(0, two, three)), []int{255, 0}, []int{255, 2}, api.OK},
		{"Else", list(both(0, two, three)), []int{0, 7}, []int{0, 3}, api.OK},
		{"no Then", list(both(0, nil, three)), []int{1, 7}, []int{1, 7}, api.OK},
		{"no Else", list(both(0, two, nil)), []int{0, 7}, []int{0, 7}, api.OK},
		{"SBoth of another variable", list(both(1, two, three)), []int{0, 7}, []int{0, 2}, api.OK},
		{"Test before the sides", list(both(0, list(code(setNum(0, 0))), three)), []int{1, 7}, []int{0, 7}, api.OK},
		{"SWhile of 0", list(while(0, code(setNum(1, 3)))), []int{0, 7}, []int{0, 7}, api.OK},
		{"SWhile of 3", list(while(0, code(one, down, set(api.OAdd, 2, 2, 1)))), []int{3, 0, 5}, []int{0, 1, 8}, api.OK},
		{"Test only before the body", list(while(0, code(setNum(0, 0)), code(setNum(1, 3)))), []int{1, 7}, []int{0, 3}, api.OK},
		{"what follows an SWhile", list(while(0, code(one, down)), code(setVar(0, 1))), []int{2, 7}, []int{1, 1}, api.OK},
		{"SWhile in SWhile", list(while(0, code(one, down, setNum(2, 2)), while(2, code(set(api.OSub, 2, 2, 1), set(api.OAdd, 3, 3, 1))))),
			[]int{3, 0, 0, 0}, []int{0, 1, 0, 6}, api.OK},
		{"endless without statements", list(while(0)), []int{1}, nil, api.ErrLoop},
		{"endless", list(while(0, code(setNum(0, 9)))), []int{1}, nil, api.ErrLoop},
		{"endless in SBoth", list(both(0, nil, list(code(setNum(0, 1)), while(0)))), []int{0}, nil, api.ErrLoop},
		{"endless in SWhile", list(while(0, while(0), code(setNum(0, 0)))), []int{1}, nil, api.ErrLoop},
		{"nothing is executed behind an endless one", list(while(0), code(setNum(0, 0))), []int{1}, nil, api.ErrLoop},
		{"fields that are not used", list(
			api.Shape{Kind: api.SCode, Code: []api.Step{one}, Then: three, Else: three}, api.Shape{Kind: api.SBoth, Code: []api.Step{setNum(2, 9)}},
			api.Shape{Kind: api.SWhile, Code: []api.Step{setNum(2, 9)}, Else: three}), []int{0, 7, 8}, []int{0, 1, 8}, api.OK},
	} {
		vals, e := shape.Run(len(c.have), c.l, c.have)
		if !slices.Equal(vals, c.want) || e != c.err {
			t.Errorf("%s: Run(%v, %v) = %v, %v, want %v, %v", c.name, c.l, c.have, vals, e, c.want, c.err)
		}
		checkRun(t, len(c.have), c.l, c.have)
		checkFlat(t, len(c.have), c.l, [][]int{c.have}, 200)
	}
}

// U1: bodies may be executed MaxTurns times in total, of one SWhile or of several ones, behind or within each other.
func TestTurns(t *testing.T) {
	countdown := func(v int) api.Shape { return while(v, code(setNum(5, 1), set(api.OSub, v, v, 5))) }
	within := list(while(0, code(setNum(5, 1), set(api.OSub, 0, 0, 5), setVar(2, 1)), countdown(2)))
	behind := list(countdown(0), both(1, list(countdown(1)), nil))
	for a := range api.MaxVal + 1 {
		for b := range api.MaxVal + 1 {
			checkTurns(t, "behind each other", behind, a, b, a+b)
			checkTurns(t, "within each other", within, a, b, a+a*b)
		}
	}
}

// checkTurns checks that Run returns ErrLoop if the bodies of a list are executed too often, as they are so many times from these values of two variables.
func checkTurns(t *testing.T, name string, l []api.Shape, a, b, turns int) {
	t.Helper()
	want := api.OK
	if turns > 200 {
		want = api.ErrLoop
	}
	if vals, e := shape.Run(6, l, []int{a, b, 0, 0, 0, 0}); e != want || (e != api.OK) != (len(vals) == 0) {
		t.Errorf("%s: Run = %v, %v from %d and %d, want %v", name, vals, e, a, b, want)
	}
}

// U1: the operations, with wraparound, for all pairs of values.
func TestOperations(t *testing.T) {
	l := list(code(set(api.OAdd, 2, 0, 1), set(api.OSub, 3, 0, 1), set(api.OMul, 4, 0, 1), set(api.OLess, 5, 0, 1)))
	for a := range api.MaxVal + 1 {
		for b := range api.MaxVal + 1 {
			checkRun(t, 6, l, []int{a, b, 9, 9, 9, 9})
		}
	}
}

// P3: arguments stay as they are, also beyond the length of a list, and the result is new.
func TestRunMemory(t *testing.T) {
	l, changed := watchedShape()
	values := []int{3, 9, 300}
	for range 2 {
		if e := shape.Check(2, l); e != api.OK {
			t.Errorf("Check(2, %v) = %v", l, e)
		}
		vals, e := shape.Run(2, l, values[:2])
		if !slices.Equal(vals, []int{0, 1}) || e != api.OK {
			t.Errorf("Run(2, %v, [3 9]) = %v, %v, want [0 1]", l, vals, e)
		}
		clear(vals[:cap(vals)])
	}
	if changed() || !slices.Equal(values, []int{3, 9, 300}) {
		t.Errorf("the arguments changed: %v, %v", l, values)
	}
}
