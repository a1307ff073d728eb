package term_test

import (
	"math"
	"slices"
	"testing"

	"codemason/api"
	"codemason/sample"
	"codemason/term"
)

// The tests write terms with these.
var num, variable, op = sample.Num, sample.Var, sample.Op

func repeat(t api.Term, n int) []api.Term { return slices.Repeat([]api.Term{t}, n) }

// A1, and the errors of Check in the functions of A2.
func TestInvalidTerms(t *testing.T) {
	for _, c := range sample.BadLists() {
		if e := term.Check(c.Vars, c.List); e != c.Want {
			t.Errorf("%s: Check(%d, %v) = %v, want %v", c.Name, c.Vars, c.List, e, c.Want)
		}
		// Values that are wrong too: the errors of Check come first.
		for _, have := range [][]int{nil, {-1}, {1, 2, 3, 4, 5, 6, 7, 8}} {
			if v, e := term.Value(c.Vars, c.List, have); v != 0 || e != c.Want {
				t.Errorf("%s: Value(%d, %v, %v) = %v, %v, want 0, %v", c.Name, c.Vars, c.List, have, v, e, c.Want)
			}
		}
		if s, e := term.Uses(c.Vars, c.List); s != 0 || e != c.Want {
			t.Errorf("%s: Uses(%d, %v) = %v, %v, want 0, %v", c.Name, c.Vars, c.List, s, e, c.Want)
		}
		if f, e := term.Fold(c.Vars, c.List); len(f) != 0 || e != c.Want {
			t.Errorf("%s: Fold(%d, %v) = %v, %v, want an empty list, %v", c.Name, c.Vars, c.List, f, e, c.Want)
		}
		if p, e := term.Prune(c.Vars, c.List); len(p) != 0 || e != c.Want {
			t.Errorf("%s: Prune(%d, %v) = %v, %v, want an empty list, %v", c.Name, c.Vars, c.List, p, e, c.Want)
		}
	}
}

// A1: limits that are still allowed, and fields that are ignored.
func TestCheckAccepts(t *testing.T) {
	for _, c := range []struct {
		vars int
		l    []api.Term
	}{
		{0, []api.Term{num(0)}},
		{0, []api.Term{num(api.MaxVal)}},
		{api.MaxVars, []api.Term{num(1)}},
		{api.MaxVars, []api.Term{variable(0)}},
		{api.MaxVars, []api.Term{variable(api.MaxVars - 1)}},
		{0, repeat(num(1), api.MaxTerms)},
		{0, []api.Term{num(1), op(api.OAdd, 0, 0)}},
		{0, []api.Term{num(1), num(2), op(api.OSub, 0, 1)}},
		{0, []api.Term{num(1), num(2), op(api.OMul, 1, 0)}},
		{0, []api.Term{num(1), num(2), op(api.OLess, 1, 1)}},
	} {
		if e := term.Check(c.vars, c.l); e != api.OK {
			t.Errorf("Check(%d, %v) = %v", c.vars, c.l, e)
		}
	}
}

// A2: the operations, with wraparound, for all pairs of values.
func TestValueOfOperations(t *testing.T) {
	for a := range api.MaxVal + 1 {
		for b := range api.MaxVal + 1 {
			less := 0
			if a < b {
				less = 1
			}
			for kind, want := range map[int]int{
				api.OAdd:  int(uint8(a) + uint8(b)),
				api.OSub:  int(uint8(a) - uint8(b)),
				api.OMul:  int(uint8(a) * uint8(b)),
				api.OLess: less,
			} {
				l := []api.Term{variable(0), variable(1), op(kind, 0, 1)}
				if v, e := term.Value(2, l, []int{a, b}); v != want || e != api.OK {
					t.Fatalf("operation %d of %d and %d: %v, %v, want %d", kind, a, b, v, e, want)
				}
			}
		}
	}
}

// A2: ordinary lists, and the limits of the numbers and lists.
func TestValue(t *testing.T) {
	doubled := []api.Term{num(1)}
	for i := range api.MaxTerms - 1 {
		doubled = append(doubled, op(api.OAdd, i, i))
	}
	for _, c := range []struct {
		name string
		vars int
		l    []api.Term
		have []int
		want int
	}{
		{"number, no variables", 0, []api.Term{num(255)}, nil, 255},
		{"number, empty values", 0, []api.Term{num(7)}, []int{}, 7},
		{"last variable", 6, []api.Term{variable(5)}, []int{0, 1, 2, 3, 4, 255}, 255},
		{"last term, not the greatest", 0, []api.Term{num(9), num(4)}, nil, 4},
		{"(x + 3) * (x - y)", 2, []api.Term{
			variable(0), num(3), op(api.OAdd, 0, 1), variable(1), op(api.OSub, 0, 3), op(api.OMul, 2, 4),
		}, []int{10, 4}, 78},
		{"y < x", 2, []api.Term{variable(0), variable(1), op(api.OLess, 1, 0)}, []int{10, 4}, 1},
		{"all powers of two wrap around", 0, doubled, nil, 0},
		{"2 to the 7th", 0, doubled[:8], nil, 128},
	} {
		if v, e := term.Value(c.vars, c.l, c.have); v != c.want || e != api.OK {
			t.Errorf("%s: %v, %v, want %d", c.name, v, e, c.want)
		}
	}
}

// A2: invalid values of the variables.
func TestValueRejectsHave(t *testing.T) {
	for _, c := range sample.BadHaves() {
		if v, e := term.Value(c.Vars, []api.Term{num(1)}, c.Have); v != 0 || e != c.Want {
			t.Errorf("%s: %v, %v, want 0, %v", c.Name, v, e, c.Want)
		}
	}
}

// A2: variables on which the last term depends, directly, indirectly, or not at all.
func TestUses(t *testing.T) {
	for _, c := range []struct {
		name string
		l    []api.Term
		want uint32
	}{
		{"no variable", []api.Term{num(3)}, 0},
		{"itself", []api.Term{variable(5)}, 1 << 5},
		{"not needed", []api.Term{variable(1), variable(2)}, 1 << 2},
		{"A", []api.Term{variable(1), num(0), variable(2), op(api.OMul, 0, 1)}, 1 << 1},
		{"B", []api.Term{variable(1), num(0), variable(2), op(api.OLess, 1, 0)}, 1 << 1},
		{"indirectly", []api.Term{
			variable(0), variable(3), variable(4), op(api.OAdd, 0, 1), op(api.OSub, 3, 3), op(api.OMul, 4, 0),
		}, 1<<0 | 1<<3},
		{"only of a term that is not needed", []api.Term{
			variable(0), variable(1), op(api.OAdd, 0, 1), op(api.OAdd, 1, 1),
		}, 1 << 1},
		{"difference of equals", []api.Term{variable(2), op(api.OSub, 0, 0)}, 1 << 2},
		{"all", []api.Term{
			variable(0), variable(1), op(api.OAdd, 0, 1), variable(2), op(api.OAdd, 2, 3), variable(3),
			op(api.OAdd, 4, 5), variable(4), op(api.OAdd, 6, 7), variable(5), op(api.OAdd, 8, 9),
		}, 1<<6 - 1},
	} {
		if s, e := term.Uses(api.MaxVars, c.l); s != c.want || e != api.OK {
			t.Errorf("%s: %b, %v, want %b", c.name, s, e, c.want)
		}
	}
}

// A2: the document's example, and lists for which only one result is possible, except for fields that are not used.
func TestFold(t *testing.T) {
	for _, c := range []struct {
		name    string
		l, want []api.Term
	}{
		{"number", []api.Term{num(8)}, []api.Term{{Op: api.ONum, Val: 8}}},
		{"sum", []api.Term{num(2), num(3), op(api.OAdd, 0, 1)}, []api.Term{{Op: api.ONum, Val: 5}}},
		{"difference", []api.Term{num(2), num(3), op(api.OSub, 0, 1)}, []api.Term{{Op: api.ONum, Val: 255}}},
		{"product", []api.Term{num(200), op(api.OMul, 0, 0)}, []api.Term{{Op: api.ONum, Val: 64}}},
		{"comparison", []api.Term{num(2), num(3), op(api.OLess, 0, 1)}, []api.Term{{Op: api.ONum, Val: 1}}},
		{"of what was folded", []api.Term{num(2), num(3), op(api.OAdd, 0, 1), op(api.OMul, 2, 2)},
			[]api.Term{{Op: api.ONum, Val: 25}}},
		{"not needed", []api.Term{variable(0), variable(1)}, []api.Term{{Op: api.OVar, Val: 1}}},
		{"(2 + 3) - x", []api.Term{num(2), variable(0), num(3), op(api.OAdd, 0, 2), op(api.OSub, 3, 1)},
			[]api.Term{{Op: api.OVar}, {Op: api.ONum, Val: 5}, {Op: api.OSub, A: 1}}},
	} {
		f, e := term.Fold(2, c.l)
		if e != api.OK || !slices.EqualFunc(f, c.want, sameTerm) {
			t.Errorf("%s: %v, %v, want %v", c.name, f, e, c.want)
		}
	}
}

// sameTerm compares the fields that the kind of the terms uses.
func sameTerm(x, y api.Term) bool {
	switch x.Op {
	case api.ONum, api.OVar:
		return x.Op == y.Op && x.Val == y.Val
	}
	return x.Op == y.Op && x.A == y.A && x.B == y.B
}

// Prune: what the last term does not need is left out, and nothing else changes.
func TestPrune(t *testing.T) {
	for _, c := range []struct {
		name    string
		l, want []api.Term
	}{
		{"number", []api.Term{num(8)}, []api.Term{num(8)}},
		{"not needed", []api.Term{variable(0), variable(1)}, []api.Term{variable(1)}},
		{"not folded", []api.Term{num(2), op(api.OAdd, 0, 0)}, []api.Term{num(2), op(api.OAdd, 0, 0)}},
		{"not needed by the last one", []api.Term{
			num(1), variable(0), op(api.OSub, 0, 1), variable(1), num(1), op(api.OLess, 4, 3), op(api.OMul, 5, 1),
		}, []api.Term{variable(0), variable(1), num(1), op(api.OLess, 2, 1), op(api.OMul, 3, 0)}},
	} {
		before := slices.Clone(c.l)
		p, e := term.Prune(2, c.l)
		if e != api.OK || !slices.EqualFunc(p, c.want, sameTerm) {
			t.Errorf("%s: %v, %v, want %v", c.name, p, e, c.want)
		}
		clear(p[:cap(p)])
		if !slices.Equal(c.l, before) {
			t.Errorf("%s: the argument changed", c.name)
		}
	}
}

// A2: what Fold promises, for all short lists over two variables and two numbers.
func TestFoldOfShortLists(t *testing.T) {
	leaves := []api.Term{num(0), num(255), variable(0), variable(1)}
	for l := range sample.ShortLists(leaves, 4) {
		checkFold(t, 2, l, [][]int{{0, 0}, {1, 0}, {0, 255}, {7, 200}, {200, 7}})
	}
}

// A2: what Fold promises, for longer lists that follow a fixed rule.
func TestFoldOfLongLists(t *testing.T) {
	next := sample.Numbers()
	for round := range 20000 {
		l := sample.List(next, 3+round%(api.MaxTerms-2), api.MaxVars, api.MaxVal+1)
		var haves [][]int
		for range 4 {
			haves = append(haves, []int{next(256), next(256), next(256), next(256), next(256), next(256)})
		}
		checkFold(t, api.MaxVars, l, haves)
	}
}

// checkFold checks what Fold promises for a valid list.
func checkFold(t *testing.T, vars int, l []api.Term, haves [][]int) {
	t.Helper()
	f, e := term.Fold(vars, l)
	if e != api.OK || term.Check(vars, f) != api.OK || len(f) > len(l) {
		t.Fatalf("Fold(%v) = %v, %v", l, f, e)
	}
	used := make([]bool, len(f))
	for _, x := range f {
		if x.Op == api.ONum || x.Op == api.OVar {
			continue
		}
		used[x.A], used[x.B] = true, true
		if f[x.A].Op == api.ONum && f[x.B].Op == api.ONum {
			t.Fatalf("Fold(%v) = %v: an operation of two numbers", l, f)
		}
	}
	if slices.Contains(used[:len(f)-1], false) {
		t.Fatalf("Fold(%v) = %v: a term that no term uses", l, f)
	}
	old, _ := term.Uses(vars, l)
	if now, _ := term.Uses(vars, f); now&^old != 0 {
		t.Fatalf("Fold(%v) = %v: uses %b, not only %b", l, f, now, old)
	}
	if again, e := term.Fold(vars, f); e != api.OK || len(again) != len(f) {
		t.Fatalf("Fold(%v) = %v, which is folded to %v, %v", l, f, again, e)
	}
	for _, have := range haves {
		want := sample.Reckon(l, len(l)-1, have)
		if v, e := term.Value(vars, l, have); v != want || e != api.OK {
			t.Fatalf("Value(%v, %v) = %v, %v, want %d", l, have, v, e, want)
		}
		if got := sample.Reckon(f, len(f)-1, have); got != want {
			t.Fatalf("Fold(%v) = %v: %d instead of %d for %v", l, f, got, want, have)
		}
	}
}

// P3: arguments stay as they are, also beyond their length, and results share no memory.
func TestMemory(t *testing.T) {
	all := []api.Term{variable(0), num(1), num(2), op(api.OAdd, 1, 2), op(api.OSub, 0, 3), num(77), num(78)}
	values := []int{9, 10, 11}
	wantAll, wantValues := slices.Clone(all), slices.Clone(values)
	l, have := all[:5], values[:1]
	if e := term.Check(1, l); e != api.OK {
		t.Error(e)
	}
	if v, e := term.Value(1, l, have); v != 6 || e != api.OK {
		t.Error(v, e)
	}
	if s, e := term.Uses(1, l); s != 1 || e != api.OK {
		t.Error(s, e)
	}
	f, e := term.Fold(1, l)
	if e != api.OK {
		t.Fatal(e)
	}
	wantF := slices.Clone(f)
	g, _ := term.Fold(1, f)
	clear(f[:cap(f)])
	if !slices.Equal(g, wantF) {
		t.Errorf("a result changed with the argument: %v, want %v", g, wantF)
	}
	h, _ := term.Fold(1, l)
	if !slices.Equal(h, wantF) {
		t.Errorf("a result depends on more than the arguments: %v, want %v", h, wantF)
	}
	if !slices.Equal(all, wantAll) || !slices.Equal(values, wantValues) {
		t.Errorf("arguments changed: %v, %v", all, values)
	}
}

// P1: the functions that other packages use answer for all numbers.
func TestHelpers(t *testing.T) {
	for kind, want := range map[int]bool{
		math.MinInt: false, 0: false, api.ONum: true, api.OVar: true, api.OAdd: false, api.OLess: false, math.MaxInt: false,
	} {
		if got := term.IsLeaf(kind); got != want {
			t.Errorf("IsLeaf(%d) = %v", kind, got)
		}
	}
	extremes := []int{math.MinInt, -1, 0, math.MaxInt}
	for _, a := range extremes {
		for _, b := range extremes {
			for _, kind := range []int{math.MinInt, 0, api.OAdd, api.OSub, api.OMul, api.OLess, math.MaxInt} {
				term.Apply(kind, a, b)
			}
		}
		if e := term.CheckHave(a, []int{1}); e != api.ErrForm {
			t.Errorf("CheckHave(%d, one value) = %v", a, e)
		}
	}
	for _, c := range []struct {
		vars, kind, val int
		want            api.Errno
	}{
		{2, api.ONum, api.MaxVal, api.OK},
		{2, api.ONum, api.MaxVal + 1, api.ErrRange},
		{2, api.OVar, 1, api.OK},
		{2, api.OVar, 2, api.ErrRange},
		{math.MinInt, api.OVar, math.MinInt, api.ErrRange},
		{2, api.OAdd, sample.Junk, api.OK},
		{2, api.OLess, sample.Junk, api.OK},
		{2, api.OLess + 1, 0, api.ErrKind},
		{2, 0, 0, api.ErrKind},
	} {
		if e := term.CheckOperation(c.vars, c.kind, c.val); e != c.want {
			t.Errorf("CheckOperation(%d, %d, %d) = %v, want %v", c.vars, c.kind, c.val, e, c.want)
		}
	}
}
