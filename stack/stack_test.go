package stack_test

import (
	"math"
	"slices"
	"testing"

	"codemason/api"
	"codemason/sample"
	"codemason/stack"
)

// The tests write terms with these.
var num, variable, op = sample.Num, sample.Var, sample.Op

// number is an operation that pushes val.
func number(val int) api.SOp { return api.SOp{Op: api.ONum, Val: val} }

// load is an operation that pushes the value of the variable v.
func load(v int) api.SOp { return api.SOp{Op: api.OVar, Val: v} }

// apply is an operation of the two topmost values.
func apply(kind int) api.SOp { return api.SOp{Op: kind, Val: sample.Junk} }

func repeat(o api.SOp, n int) []api.SOp { return slices.Repeat([]api.SOp{o}, n) }

// chain is code of n pushes and operations, for an odd n, that leaves one value.
func chain(n int) []api.SOp {
	return append([]api.SOp{number(1)}, slices.Repeat([]api.SOp{number(2), apply(api.OAdd)}, n/2)...)
}

// C1: ordinary code, and the limits.
func TestRun(t *testing.T) {
	var counted []int
	for i := range api.MaxSteps {
		counted = append(counted, i)
	}
	var count []api.SOp
	for _, v := range counted {
		count = append(count, number(v))
	}
	for _, c := range []struct {
		name string
		vars int
		code []api.SOp
		have []int
		want []int
	}{
		{"nil", 0, nil, nil, nil},
		{"empty, all variables", 6, []api.SOp{}, []int{1, 2, 3, 4, 5, 255}, nil},
		{"numbers, from the bottom to the top", 0, []api.SOp{number(0), number(255), number(7)}, []int{}, []int{0, 255, 7}},
		{"variables", 6, []api.SOp{load(5), load(0), load(5)}, []int{9, 1, 2, 3, 4, 200}, []int{200, 9, 200}},
		{"x - y", 2, []api.SOp{load(0), load(1), apply(api.OSub)}, []int{7, 3}, []int{4}},
		{"y - x", 2, []api.SOp{load(1), load(0), apply(api.OSub)}, []int{7, 3}, []int{252}},
		{"x less than y", 2, []api.SOp{load(0), load(1), apply(api.OLess)}, []int{3, 7}, []int{1}},
		{"y less than x", 2, []api.SOp{load(1), load(0), apply(api.OLess)}, []int{3, 7}, []int{0}},
		{"only the two topmost", 0, []api.SOp{number(1), number(2), number(30), number(4), apply(api.OSub)}, nil, []int{1, 2, 26}},
		{"20 - (9 - 2)", 0, []api.SOp{number(20), number(9), number(2), apply(api.OSub), apply(api.OSub)}, nil, []int{13}},
		{"(20 - 9) - 2", 0, []api.SOp{number(20), number(9), apply(api.OSub), number(2), apply(api.OSub)}, nil, []int{9}},
		{"most operations, highest stack", 0, count, nil, counted},
		{"most operations, lowest stack", 0, append(chain(api.MaxSteps-1), number(8)), nil, []int{39, 8}},
	} {
		if s, e := stack.Run(c.vars, c.code, c.have); e != api.OK || !slices.Equal(s, c.want) {
			t.Errorf("%s: %v, %v, want %v", c.name, s, e, c.want)
		}
	}
}

// C1: the operations, with wraparound, for all pairs of values.
func TestRunOperations(t *testing.T) {
	var code []api.SOp
	for kind := api.OAdd; kind <= api.OLess; kind++ {
		code = append(code, load(0), load(1), apply(kind))
	}
	for a := range api.MaxVal + 1 {
		for b := range api.MaxVal + 1 {
			var want []int
			for kind := api.OAdd; kind <= api.OLess; kind++ {
				want = append(want, sample.Apply(kind, a, b))
			}
			if s, e := stack.Run(2, code, []int{a, b}); e != api.OK || !slices.Equal(s, want) {
				t.Fatalf("operations of %d and %d: %v, %v, want %v", a, b, s, e, want)
			}
		}
	}
}

// badCode is code that is invalid with so many variables: for Run and Back with one error, and for Deep, which does not look at Val, with the same one or, if deep is OK, with none.
type badCode struct {
	name string
	vars int
	code []api.SOp
	want api.Errno
	deep api.Errno
}

func badCodes() []badCode {
	kind, value, sum := api.SOp{Op: 99, Val: sample.Junk}, number(256), apply(api.OAdd)
	one := number(1)
	calls := []badCode{
		{"too many operations", 0, repeat(one, api.MaxSteps+1), api.ErrLarge, api.ErrLarge},
		{"too many before kind", 0, repeat(kind, api.MaxSteps+1), api.ErrLarge, api.ErrLarge},
		{"too many before none", 0, repeat(sum, api.MaxSteps+1), api.ErrLarge, api.ErrLarge},
		{"vars before kind", 7, []api.SOp{kind}, api.ErrLarge, api.ErrKind},
		{"vars before none", -1, []api.SOp{sum}, api.ErrLarge, api.ErrNone},
		{"vars before range", 7, []api.SOp{value}, api.ErrLarge, api.OK},
		{"kind before none of the same operation", 0, []api.SOp{kind}, api.ErrKind, api.ErrKind},
		{"kind before range of the same operation", 0, []api.SOp{{Op: 7, Val: 256}}, api.ErrKind, api.ErrKind},
		{"first is kind", 0, []api.SOp{one, kind, value, sum}, api.ErrKind, api.ErrKind},
		{"first is range", 0, []api.SOp{value, sum, kind}, api.ErrRange, api.ErrNone},
		{"first is range, of a variable", 1, []api.SOp{load(1), kind, sum}, api.ErrRange, api.ErrKind},
		{"first is none", 0, []api.SOp{one, sum, kind, value}, api.ErrNone, api.ErrNone},
		{"last of many is range", 0, append(repeat(one, api.MaxSteps-1), value), api.ErrRange, api.OK},
		{"last of many is none", 0, append(chain(api.MaxSteps-1), sum), api.ErrNone, api.ErrNone},
	}
	for k := api.OAdd; k <= api.OLess; k++ {
		calls = append(calls,
			badCode{"empty stack", 0, []api.SOp{apply(k)}, api.ErrNone, api.ErrNone},
			badCode{"one value", 0, []api.SOp{one, apply(k), one, one}, api.ErrNone, api.ErrNone},
			badCode{"one value again", 0, []api.SOp{one, one, apply(k), apply(k), one}, api.ErrNone, api.ErrNone})
	}
	for _, k := range []int{math.MinInt, -1, 0, api.OLess + 1, math.MaxInt} {
		calls = append(calls, badCode{"kind", 2, []api.SOp{one, one, {Op: k}}, api.ErrKind, api.ErrKind})
	}
	for _, v := range sample.Outside(api.MaxVal + 1) {
		calls = append(calls, badCode{"number", 2, []api.SOp{number(v)}, api.ErrRange, api.OK})
	}
	for _, v := range sample.Outside(2) {
		calls = append(calls, badCode{"variable", 2, []api.SOp{load(v)}, api.ErrRange, api.OK})
	}
	for _, v := range sample.Outside(api.MaxVars + 1) {
		calls = append(calls, badCode{"vars", v, []api.SOp{one}, api.ErrLarge, api.OK},
			badCode{"vars, no operations", v, nil, api.ErrLarge, api.OK})
	}
	return append(calls, badCode{"variable 0 of 0", 0, []api.SOp{load(0)}, api.ErrRange, api.OK})
}

// C1, and the errors of Run in C2: invalid code, and the order of the errors.
func TestInvalidCode(t *testing.T) {
	for _, c := range badCodes() {
		// Values that are wrong too: the errors of the code come first.
		for _, have := range [][]int{nil, {-1}, {0, 0}, {1, 2, 3, 4, 5, 6, 7, 8}} {
			if s, e := stack.Run(c.vars, c.code, have); len(s) != 0 || e != c.want {
				t.Errorf("%s: Run(%d, %v, %v) = %v, %v, want %v", c.name, c.vars, c.code, have, s, e, c.want)
			}
		}
		if k, e := stack.Deep(c.code); e != c.deep || e != api.OK && k != 0 {
			t.Errorf("%s: Deep(%v) = %d, %v, want %v", c.name, c.code, k, e, c.deep)
		}
		if l, e := stack.Back(c.vars, c.code); len(l) != 0 || e != c.want {
			t.Errorf("%s: Back(%d, %v) = %v, %v, want %v", c.name, c.vars, c.code, l, e, c.want)
		}
	}
}

// C1: invalid values of the variables, also where the code does not use them.
func TestRunRejectsHave(t *testing.T) {
	for _, c := range sample.BadHaves() {
		for _, code := range [][]api.SOp{nil, {number(1)}} {
			if s, e := stack.Run(c.Vars, code, c.Have); len(s) != 0 || e != c.Want {
				t.Errorf("%s: Run(%d, %v, %v) = %v, %v, want %v", c.Name, c.Vars, code, c.Have, s, e, c.Want)
			}
		}
	}
}

// C1: the document's example of Deep, and other code whose greatest height is easily seen.
func TestDeep(t *testing.T) {
	for _, c := range []struct {
		name string
		code []api.SOp
		want int
	}{
		{"example", []api.SOp{load(0), load(1), apply(api.OSub)}, 2},
		{"nil", nil, 0},
		{"empty", []api.SOp{}, 0},
		{"number", []api.SOp{number(1)}, 1},
		{"highest in the middle", []api.SOp{
			number(1), number(2), number(3), apply(api.OAdd), apply(api.OMul), number(4)}, 3},
		{"highest at the end", []api.SOp{
			number(1), number(2), apply(api.OAdd), number(3), number(4)}, 3},
		{"an operation does not need a place", chain(api.MaxSteps - 1), 2},
		{"most operations", repeat(number(1), api.MaxSteps), api.MaxSteps},
		{"any variable", []api.SOp{load(-1), load(api.MaxVars), load(math.MaxInt)}, 3},
		{"any number", []api.SOp{number(-1), number(256), number(math.MinInt)}, 3},
	} {
		if k, e := stack.Deep(c.code); k != c.want || e != api.OK {
			t.Errorf("%s: Deep(%v) = %d, %v, want %d", c.name, c.code, k, e, c.want)
		}
	}
}

// C1 and C2: all short code, with each Val different.
func TestShortCode(t *testing.T) {
	var extend func(code []api.SOp)
	extend = func(code []api.SOp) {
		checkCode(t, code)
		if len(code) == 7 || t.Failed() {
			return
		}
		for _, o := range []api.SOp{number(100 + len(code)), load(len(code) % 2), apply(api.OSub), apply(api.OLess)} {
			extend(append(code, o))
		}
	}
	extend(nil)
}

// C1 and C2: code as long as is allowed, by a fixed rule.
func TestLongCode(t *testing.T) {
	next := sample.Numbers()
	for round := 0; round < 20000 && !t.Failed(); round++ {
		var code []api.SOp
		height := 0
		for len(code) < 1+round%api.MaxSteps {
			switch {
			case height >= 2 && next(2) == 0 || height > 0 && next(200) == 0:
				code = append(code, apply(api.OAdd+next(4)))
				height--
			case next(2) == 0:
				code = append(code, number(next(api.MaxVal+1)))
				height++
			default:
				code = append(code, load(next(2)))
				height++
			}
		}
		checkCode(t, code)
	}
}

// checkCode checks what Run, Deep and Back promise for code that is valid except, perhaps, for the height of the stack.
func checkCode(t *testing.T, code []api.SOp) {
	t.Helper()
	have := []int{9, 250}
	l, left, greatest, valid := translate(code)
	if !valid {
		s, e1 := stack.Run(2, code, have)
		k, e2 := stack.Deep(code)
		b, e3 := stack.Back(2, code)
		if len(s) != 0 || k != 0 || len(b) != 0 || e1 != api.ErrNone || e2 != api.ErrNone || e3 != api.ErrNone {
			t.Fatalf("%v: Run = %v, %v, Deep = %v, %v, Back = %v, %v, want ErrNone", code, s, e1, k, e2, b, e3)
		}
		return
	}
	var want []int
	for _, i := range left {
		want = append(want, sample.Reckon(l, i, have))
	}
	if s, e := stack.Run(2, code, have); e != api.OK || !slices.Equal(s, want) {
		t.Fatalf("Run(%v) = %v, %v, want %v", code, s, e, want)
	}
	if k, e := stack.Deep(code); e != api.OK || k != greatest {
		t.Fatalf("Deep(%v) = %d, %v, want %d", code, k, e, greatest)
	}
	b, e := stack.Back(2, code)
	switch {
	case len(code) == 0 || len(code) > api.MaxTerms:
		if len(b) != 0 || e != api.ErrLarge {
			t.Fatalf("Back(%v) = %v, %v, want ErrLarge", code, b, e)
		}
	case len(left) != 1:
		if len(b) != 0 || e != api.ErrForm {
			t.Fatalf("Back(%v) = %v, %v, want ErrForm", code, b, e)
		}
	default:
		if e != api.OK || !slices.Equal(b, l) {
			t.Fatalf("Back(%v) = %v, %v, want %v", code, b, e, l)
		}
		if c, e := stack.Code(2, b); e != api.OK || !slices.Equal(c, plain(code)) {
			t.Fatalf("Code(Back(%v)) = %v, %v", code, c, e)
		}
	}
}

// translate returns, by the document's definition, the term of each operation, the terms whose values are left on the stack, and the greatest height; false if an operation finds fewer than two values.
func translate(code []api.SOp) (l []api.Term, left []int, greatest int, valid bool) {
	for i, o := range code {
		if o.Op == api.ONum || o.Op == api.OVar {
			l = append(l, api.Term{Op: o.Op, Val: o.Val})
		} else {
			n := len(left)
			if n < 2 {
				return nil, nil, 0, false
			}
			l = append(l, api.Term{Op: o.Op, A: left[n-2], B: left[n-1]})
			left = left[:n-2]
		}
		left = append(left, i)
		greatest = max(greatest, len(left))
	}
	return l, left, greatest, true
}

// plain returns the code with 0 for each Val that is not used.
func plain(code []api.SOp) []api.SOp {
	var out []api.SOp
	for _, o := range code {
		if o.Op != api.ONum && o.Op != api.OVar {
			o.Val = 0
		}
		out = append(out, o)
	}
	return out
}

// C2: ordinary trees.
func TestCode(t *testing.T) {
	for _, c := range []struct {
		name string
		l    []api.Term
		want []api.SOp
	}{
		{"number", []api.Term{num(7)}, []api.SOp{number(7)}},
		{"variable", []api.Term{variable(1)}, []api.SOp{load(1)}},
		{"x - y", []api.Term{variable(0), variable(1), op(api.OSub, 0, 1)}, []api.SOp{load(0), load(1), {Op: api.OSub}}},
		{"A is the later term", []api.Term{variable(0), variable(1), op(api.OSub, 1, 0)},
			[]api.SOp{load(1), load(0), {Op: api.OSub}}},
		{"A first, although B needs more", []api.Term{num(1), num(2), op(api.OMul, 0, 1), num(3), op(api.OLess, 3, 2)},
			[]api.SOp{number(3), number(1), number(2), {Op: api.OMul}, {Op: api.OLess}}},
		{"leaves first", []api.Term{num(1), num(2), num(3), num(4), op(api.OAdd, 3, 0), op(api.OSub, 2, 1), op(api.OMul, 5, 4)},
			[]api.SOp{number(3), number(2), {Op: api.OSub}, number(4), number(1), {Op: api.OAdd}, {Op: api.OMul}}},
	} {
		if code, e := stack.Code(2, c.l); e != api.OK || !slices.Equal(code, c.want) {
			t.Errorf("%s: Code(%v) = %v, %v, want %v", c.name, c.l, code, e, c.want)
		}
	}
}

// C2: the errors of Code.
func TestInvalidTrees(t *testing.T) {
	for _, c := range sample.BadTrees() {
		if code, e := stack.Code(c.Vars, c.List); len(code) != 0 || e != c.Want {
			t.Errorf("%s: Code(%d, %v) = %v, %v, want %v", c.Name, c.Vars, c.List, code, e, c.Want)
		}
	}
}

// C2: all shapes of trees in postorder, of which Back is the inverse.
func TestAllShapes(t *testing.T) {
	next := sample.Numbers()
	for leaves := 1; 2*leaves-1 <= api.MaxTerms; leaves++ {
		for _, l := range sample.Shapes(next, leaves) {
			code := checkTree(t, l)
			if b, e := stack.Back(api.MaxVars, code); e != api.OK || !slices.EqualFunc(b, l, sameTerm) {
				t.Fatalf("Back(%v) = %v, %v, want %v", code, b, e, l)
			}
		}
	}
}

// sameTerm reports whether b is the term l, with 0 in the fields that it does not use.
func sameTerm(b, l api.Term) bool {
	if l.Op == api.ONum || l.Op == api.OVar {
		return b == api.Term{Op: l.Op, Val: l.Val}
	}
	return b == api.Term{Op: l.Op, A: l.A, B: l.B}
}

// C2: trees in any order of terms, by a fixed rule.
func TestTreesInAnyOrder(t *testing.T) {
	next := sample.Numbers()
	for round := range 3000 {
		l := sample.Tree(next, 1+round%8)
		have := []int{next(256), next(256), next(256), next(256), next(256), next(256)}
		code := checkTree(t, l)
		want := []int{sample.Reckon(l, len(l)-1, have)}
		if s, e := stack.Run(api.MaxVars, code, have); e != api.OK || !slices.Equal(s, want) {
			t.Fatalf("Run(Code(%v), %v) = %v, %v, want %v", l, have, s, e, want)
		}
		if b, e := stack.Back(api.MaxVars, code); e != api.OK || sample.Reckon(b, len(b)-1, have) != want[0] {
			t.Fatalf("Back(Code(%v)) = %v, %v, which does not have the value %v for %v", l, b, e, want, have)
		}
	}
}

// checkTree checks what Code promises for a tree, and returns the code.
func checkTree(t *testing.T, l []api.Term) []api.SOp {
	t.Helper()
	code, e := stack.Code(api.MaxVars, l)
	if want := postorder(l, len(l)-1); e != api.OK || !slices.Equal(code, want) {
		t.Fatalf("Code(%v) = %v, %v, want %v", l, code, e, want)
	}
	return code
}

// postorder is the code of term i by the document's definition.
func postorder(l []api.Term, i int) []api.SOp {
	if x := l[i]; x.Op != api.ONum && x.Op != api.OVar {
		return slices.Concat(postorder(l, x.A), postorder(l, x.B), []api.SOp{{Op: x.Op}})
	}
	return []api.SOp{{Op: l[i].Op, Val: l[i].Val}}
}

// C2: the errors of Back that Run does not have, and their order.
func TestBackRejects(t *testing.T) {
	sum := apply(api.OAdd)
	long := chain(api.MaxTerms + 1)
	for _, c := range []struct {
		name string
		code []api.SOp
		want api.Errno
	}{
		{"nil", nil, api.ErrLarge},
		{"empty", []api.SOp{}, api.ErrLarge},
		{"one more than the most terms", long, api.ErrLarge},
		{"most operations", append(chain(api.MaxSteps-1), number(1)), api.ErrLarge},
		{"large before form", repeat(number(1), api.MaxTerms+1), api.ErrLarge},
		{"kind before large", append(slices.Clone(long), api.SOp{Op: 99}), api.ErrKind},
		{"range before large", append(slices.Clone(long), number(256)), api.ErrRange},
		{"none before large", append(slices.Clone(long), sum), api.ErrNone},
		{"kind before form", append(repeat(number(1), 2), api.SOp{Op: 99}), api.ErrKind},
		{"range before form", append(repeat(number(1), 2), load(2)), api.ErrRange},
		{"two values", repeat(number(1), 2), api.ErrForm},
		{"two values, one of them computed", append(chain(3), load(0)), api.ErrForm},
		{"two values below", []api.SOp{number(1), number(1), number(1), sum}, api.ErrForm},
		{"most terms", repeat(number(1), api.MaxTerms), api.ErrForm},
	} {
		if l, e := stack.Back(2, c.code); len(l) != 0 || e != c.want {
			t.Errorf("%s: Back(%v) = %v, %v, want %v", c.name, c.code, l, e, c.want)
		}
	}
	if l, e := stack.Back(0, chain(api.MaxTerms-1)); e != api.OK || len(l) != api.MaxTerms-1 {
		t.Errorf("the longest tree: %v, %v", l, e)
	}
}

// P3: arguments stay as they are, also beyond their length, and results share no memory.
func TestMemory(t *testing.T) {
	terms := []api.Term{variable(0), num(1), op(api.OSub, 0, 1), op(api.OAdd, 0, 0), num(300)}
	ops := []api.SOp{load(0), number(1), apply(api.OSub), apply(api.OAdd), number(300)}
	values := []int{5, 300}
	wantTerms, wantOps, wantValues := slices.Clone(terms), slices.Clone(ops), slices.Clone(values)
	l, code, have := terms[:3], ops[:3], values[:1]
	for range 2 {
		s, e := stack.Run(1, code, have)
		if e != api.OK || !slices.Equal(s, []int{4}) {
			t.Error(s, e)
		}
		clear(s[:cap(s)])
		if k, e := stack.Deep(code); k != 2 || e != api.OK {
			t.Error(k, e)
		}
		c, e := stack.Code(1, l)
		if e != api.OK || !slices.Equal(c, plain(code)) {
			t.Error(c, e)
		}
		clear(c[:cap(c)])
		b, e := stack.Back(1, code)
		if e != api.OK || !slices.EqualFunc(b, l, sameTerm) {
			t.Error(b, e)
		}
		clear(b[:cap(b)])
	}
	if !slices.Equal(terms, wantTerms) || !slices.Equal(ops, wantOps) || !slices.Equal(values, wantValues) {
		t.Errorf("arguments changed: %v, %v, %v", terms, ops, values)
	}
}
