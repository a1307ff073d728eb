package value_test

import (
	"slices"
	"testing"

	"codemason/api"
	"codemason/sample"
	"codemason/term"
	"codemason/value"
)

// The tests write terms with these.
var num, variable, op = sample.Num, sample.Var, sample.Op

// plain is an operation of the terms a and b with all unused fields 0, as in a result.
func plain(kind, a, b int) api.Term { return api.Term{Op: kind, A: a, B: b} }

// D1: the errors of term.Check in both functions, before those of i and j.
func TestInvalidTerms(t *testing.T) {
	for _, c := range sample.BadLists() {
		for _, i := range []int{-1, 0, len(c.List) - 1, len(c.List)} {
			if is, e := value.Same(c.Vars, c.List, i, 0); is || e != c.Want {
				t.Errorf("%s: Same(%d, %v, %d, 0) = %v, %v, want false, %v", c.Name, c.Vars, c.List, i, is, e, c.Want)
			}
		}
		if m, e := value.Least(c.Vars, c.List); len(m) != 0 || e != c.Want {
			t.Errorf("%s: Least(%d, %v) = %v, %v, want an empty list, %v", c.Name, c.Vars, c.List, m, e, c.Want)
		}
	}
}

// D1: numbers that are not those of terms.
func TestSameRejects(t *testing.T) {
	for n := 1; n <= api.MaxTerms; n++ {
		l := slices.Repeat([]api.Term{num(1)}, n)
		for _, i := range sample.Outside(n) {
			for _, pair := range [][2]int{{i, 0}, {0, i}, {i, n - 1}, {n - 1, i}, {i, i}} {
				if is, e := value.Same(0, l, pair[0], pair[1]); is || e != api.ErrArg {
					t.Errorf("Same of %v of %d terms: %v, %v, want ErrArg", pair, n, is, e)
				}
			}
		}
	}
}

// D1: pairs of terms that are easily compared.
func TestSame(t *testing.T) {
	l := []api.Term{
		variable(0), variable(1), op(api.OAdd, 0, 1), op(api.OAdd, 1, 0), op(api.OMul, 2, 3), op(api.OMul, 0, 1),
		op(api.OSub, 0, 1), op(api.OSub, 1, 0), op(api.OLess, 0, 1), op(api.OLess, 1, 0), num(0), num(1), num(0),
		op(api.OSub, 2, 10), op(api.OSub, 3, 12), op(api.OLess, 0, 1),
	}
	same := map[[2]int]bool{{2, 3}: true, {10, 12}: true, {13, 14}: true, {8, 15}: true}
	for i := range l {
		for j := range l {
			want := i == j || same[[2]int{min(i, j), max(i, j)}]
			if is, e := value.Same(2, l, i, j); is != want || e != api.OK {
				t.Errorf("Same(%d, %d) = %v, %v, want %v", i, j, is, e, want)
			}
		}
	}
}

// D1: the document's example of Least, and other lists whose classes are easily seen.
func TestLeast(t *testing.T) {
	x, y := api.Term{Op: api.OVar}, api.Term{Op: api.OVar, Val: 1}
	five := api.Term{Op: api.ONum, Val: 5}
	for _, c := range []struct {
		name    string
		l, want []api.Term
	}{
		{"number", []api.Term{num(5)}, []api.Term{five}},
		{"example", []api.Term{variable(0), variable(1), op(api.OAdd, 0, 1), op(api.OAdd, 1, 0), op(api.OMul, 2, 3)},
			[]api.Term{x, y, plain(api.OAdd, 0, 1), plain(api.OMul, 2, 2)}},
		{"not needed", []api.Term{num(5), variable(1), variable(0)}, []api.Term{x}},
		{"the last one is congruent to an earlier one", []api.Term{num(5), variable(0), num(5)}, []api.Term{five}},
		{"to one behind which others are", []api.Term{
			variable(0), variable(1), op(api.OAdd, 1, 0), op(api.OMul, 2, 2), op(api.OSub, 3, 0), op(api.OAdd, 0, 1)},
			[]api.Term{x, y, plain(api.OAdd, 0, 1)}},
		{"only a congruent one is needed", []api.Term{variable(0), num(5), variable(0), num(5), op(api.OSub, 2, 3)},
			[]api.Term{x, five, plain(api.OSub, 0, 1)}},
		{"the first one decides the order", []api.Term{num(5), variable(0), num(5), op(api.OLess, 1, 2)},
			[]api.Term{five, x, plain(api.OLess, 1, 0)}},
		{"A is not greater than B", []api.Term{variable(0), variable(1), op(api.OMul, 1, 0)},
			[]api.Term{x, y, plain(api.OMul, 0, 1)}},
		{"but for differences", []api.Term{variable(0), variable(1), op(api.OSub, 1, 0)},
			[]api.Term{x, y, plain(api.OSub, 1, 0)}},
		{"and comparisons", []api.Term{variable(0), variable(1), op(api.OLess, 1, 0)},
			[]api.Term{x, y, plain(api.OLess, 1, 0)}},
		{"order of kept terms, not of the given ones", []api.Term{
			variable(0), variable(1), variable(0), op(api.OAdd, 1, 2)}, []api.Term{x, y, plain(api.OAdd, 0, 1)}},
		{"equal values are not enough", []api.Term{num(5), op(api.OSub, 0, 0), variable(0), op(api.OSub, 2, 2), op(api.OAdd, 3, 1)},
			[]api.Term{five, plain(api.OSub, 0, 0), x, plain(api.OSub, 2, 2), plain(api.OAdd, 1, 3)}},
		{"a number is not a variable", []api.Term{num(1), variable(1), op(api.OSub, 0, 1)},
			[]api.Term{{Op: api.ONum, Val: 1}, y, plain(api.OSub, 0, 1)}},
	} {
		if m, e := value.Least(2, c.l); e != api.OK || !slices.Equal(m, c.want) {
			t.Errorf("%s: %v, %v, want %v", c.name, m, e, c.want)
		}
	}
}

// D1: lists of the greatest length, of equal terms and of different ones.
func TestLongestLists(t *testing.T) {
	sums := []api.Term{variable(0), variable(0)}
	for i := 1; len(sums)+2 <= api.MaxTerms; i += 2 {
		sums = append(sums, op(api.OAdd, i-1, i), op(api.OAdd, i, i-1))
	}
	chain := []api.Term{num(1)}
	for i := range api.MaxTerms - 1 {
		chain = append(chain, op(api.OMul, i, i))
	}
	for _, c := range []struct {
		l    []api.Term
		want int
	}{
		{slices.Repeat([]api.Term{variable(5)}, api.MaxTerms), 1},
		{sums, api.MaxTerms / 2},
		{chain, api.MaxTerms},
	} {
		if m, e := value.Least(api.MaxVars, c.l); e != api.OK || len(m) != c.want {
			t.Errorf("Least(%v) = %v, %v, want %d terms", c.l, m, e, c.want)
		}
		checkList(t, api.MaxVars, c.l)
	}
}

// D1: all short lists.
func TestShortLists(t *testing.T) {
	for l := range sample.ShortLists([]api.Term{num(0), num(1), variable(0), variable(1)}, 4) {
		checkList(t, 2, l)
	}
}

// D1: longer lists that follow a fixed rule, with few leaves, so that many terms are congruent.
func TestLongLists(t *testing.T) {
	next := sample.Numbers()
	for round := range 2000 {
		checkList(t, 2, sample.List(next, 3+round%(api.MaxTerms-2), 2, 2))
	}
}

// checkList compares both functions with the document's definitions for a valid list.
func checkList(t *testing.T, vars int, l []api.Term) {
	t.Helper()
	same := congruent(l)
	for i := range l {
		for j := range l {
			if is, e := value.Same(vars, l, i, j); is != same[i][j] || e != api.OK {
				t.Fatalf("Same(%v, %d, %d) = %v, %v, want %v", l, i, j, is, e, same[i][j])
			}
		}
	}
	m, e := value.Least(vars, l)
	if want := least(l, same); e != api.OK || !slices.Equal(m, want) {
		t.Fatalf("Least(%v) = %v, %v, want %v", l, m, e, want)
	}
	if again, e := value.Least(vars, m); e != api.OK || !slices.Equal(again, m) {
		t.Fatalf("Least(%v) = %v, %v, want the same", m, again, e)
	}
	for _, v := range []int{0, 1, 7, 255} {
		have := []int{v, 200, 3, 77, 9, 31}[:vars]
		want, _ := term.Value(vars, l, have)
		if got, e := term.Value(vars, m, have); got != want || e != api.OK {
			t.Fatalf("Least(%v) = %v: %d, %v instead of %d for %v", l, m, got, e, want, have)
		}
	}
}

// congruent tells, by the document's definition, which terms are congruent.
func congruent(l []api.Term) [][]bool {
	same := make([][]bool, len(l))
	for i := range l {
		same[i] = make([]bool, len(l))
	}
	for i, x := range l {
		for j, y := range l[:i+1] {
			var is bool
			switch {
			case x.Op != y.Op:
			case x.Op == api.ONum || x.Op == api.OVar:
				is = x.Val == y.Val
			case x.Op == api.OAdd || x.Op == api.OMul:
				is = same[x.A][y.A] && same[x.B][y.B] || same[x.A][y.B] && same[x.B][y.A]
			default:
				is = same[x.A][y.A] && same[x.B][y.B]
			}
			same[i][j], same[j][i] = is, is
		}
	}
	return same
}

// least is the result of Least by the document's definition.
func least(l []api.Term, same [][]bool) []api.Term {
	needed := make([]bool, len(l))
	var need func(i int)
	need = func(i int) {
		if needed[i] {
			return
		}
		needed[i] = true
		if l[i].Op != api.ONum && l[i].Op != api.OVar {
			need(l[i].A)
			need(l[i].B)
		}
	}
	need(len(l) - 1)
	var kept []int
	for i := range l {
		isFirst := slices.Index(same[i], true) == i
		inClass := func(j int) bool { return needed[j] && same[i][j] }
		if isFirst && slices.ContainsFunc(count(len(l)), inClass) {
			kept = append(kept, i)
		}
	}
	place := func(i int) int {
		return slices.IndexFunc(kept, func(k int) bool { return same[i][k] })
	}
	var out []api.Term
	for _, i := range kept {
		x := api.Term{Op: l[i].Op}
		if x.Op == api.ONum || x.Op == api.OVar {
			x.Val = l[i].Val
		} else {
			x.A, x.B = place(l[i].A), place(l[i].B)
		}
		if (x.Op == api.OAdd || x.Op == api.OMul) && x.A > x.B {
			x.A, x.B = x.B, x.A
		}
		out = append(out, x)
	}
	return out
}

// count lists the numbers below n.
func count(n int) []int {
	var all []int
	for i := range n {
		all = append(all, i)
	}
	return all
}

// P3: arguments stay as they are, also beyond their length, and results share no memory.
func TestMemory(t *testing.T) {
	all := []api.Term{variable(0), num(1), op(api.OAdd, 1, 0), op(api.OMul, 2, 0), num(77), num(300)}
	before := slices.Clone(all)
	l := all[:4]
	want := []api.Term{{Op: api.OVar}, {Op: api.ONum, Val: 1}, plain(api.OAdd, 0, 1), plain(api.OMul, 0, 2)}
	for range 2 {
		if is, e := value.Same(1, l, 2, 3); is || e != api.OK {
			t.Error(is, e)
		}
		m, e := value.Least(1, l)
		if e != api.OK || !slices.Equal(m, want) {
			t.Error(m, e)
		}
		again, _ := value.Least(1, m)
		clear(m[:cap(m)])
		if !slices.Equal(again, want) {
			t.Errorf("a result changed with the argument: %v", again)
		}
	}
	if !slices.Equal(all, before) {
		t.Errorf("the argument changed: %v", all)
	}
}
