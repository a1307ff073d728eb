package weak_test

import (
	"slices"
	"testing"

	"codemason/api"
	"codemason/sample"
	"codemason/term"
	"codemason/weak"
)

// execute returns the values of the variables behind the steps, by the document's definition.
func execute(code []api.Step, have []int) []int {
	vals := slices.Clone(have)
	sample.Execute(code, vals)
	return vals
}

// valueOf is the value of a list of any length, by the document's definition.
func valueOf(l []api.Term, have []int) int {
	var vals []int
	for _, x := range l {
		switch x.Op {
		case api.ONum:
			vals = append(vals, x.Val)
		case api.OVar:
			vals = append(vals, have[x.Val])
		default:
			vals = append(vals, sample.Apply(x.Op, vals[x.A], vals[x.B]))
		}
	}
	return vals[len(vals)-1]
}

// checkAhead checks that Ahead returns a list that has, for these values, the value that post has behind the steps.
func checkAhead(t *testing.T, vars int, code []api.Step, post []api.Term, haves [][]int) {
	t.Helper()
	l, e := weak.Ahead(vars, code, post)
	if e != api.OK || !isPlain(vars, l) {
		t.Fatalf("Ahead(%d, %v, %v) = %v, %v, want a list of terms", vars, code, post, l, e)
	}
	for _, have := range haves {
		want := valueOf(post, execute(code, have))
		if v := valueOf(l, have); v != want {
			t.Fatalf("Ahead(%d, %v, %v) = %v, which is %d, not %d for %v", vars, code, post, l, v, want, have)
		}
	}
	checkWeakest(t, vars, code, post, l, haves)
}

// isPlain reports whether a list of any length is valid, has 0 in fields that are not used, has no term twice, and none on which the last one does not depend.
func isPlain(vars int, l []api.Term) bool {
	used := make([]bool, len(l))
	for i, x := range l {
		switch x.Op {
		case api.ONum, api.OVar:
			count := api.MaxVal + 1
			if x.Op == api.OVar {
				count = vars
			}
			if x.Val < 0 || x.Val >= count || x.A != 0 || x.B != 0 {
				return false
			}
		case api.OAdd, api.OSub, api.OMul, api.OLess:
			if x.A < 0 || x.A >= i || x.B < 0 || x.B >= i || x.Val != 0 {
				return false
			}
			used[x.A], used[x.B] = true, true
		default:
			return false
		}
		if slices.Contains(l[:i], x) {
			return false
		}
	}
	return len(l) > 0 && !slices.Contains(used[:len(l)-1], false)
}

// checkWeakest checks that, with the result of Ahead before the steps, Holds reports true for all values; and, with what is always true before them, only where this result is true.
func checkWeakest(t *testing.T, vars int, code []api.Step, post, l []api.Term, haves [][]int) {
	t.Helper()
	for _, have := range haves {
		want := valueOf(l, have) != 0
		if is, e := weak.Holds(vars, []api.Term{num(1)}, code, post, have); is != want || e != api.OK {
			t.Fatalf("Holds(%d, 1, %v, %v, %v) = %v, %v, but Ahead returns %v", vars, code, post, have, is, e, l)
		}
		if term.Check(vars, l) != api.OK {
			continue
		}
		if is, e := weak.Holds(vars, l, code, post, have); !is || e != api.OK {
			t.Fatalf("Holds(%d, %v, %v, %v, %v) = %v, %v, but Ahead returns that", vars, l, code, post, have, is, e)
		}
	}
}

// checkHolds compares Holds with the document's definition for valid arguments, and returns the result.
func checkHolds(t *testing.T, vars int, pre []api.Term, code []api.Step, post []api.Term, have []int) bool {
	t.Helper()
	want := valueOf(pre, have) == 0 || valueOf(post, execute(code, have)) != 0
	if is, e := weak.Holds(vars, pre, code, post, have); is != want || e != api.OK {
		t.Fatalf("Holds(%d, %v, %v, %v, %v) = %v, %v, want %v", vars, pre, code, post, have, is, e, want)
	}
	return want
}

// shortSteps lists all steps over two variables with a few numbers.
func shortSteps() []api.Step {
	var steps []api.Step
	for to := range 2 {
		steps = append(steps, setNum(to, 0), setNum(to, 1), setNum(to, 255), setVar(to, 0), setVar(to, 1))
		for kind := api.OAdd; kind <= api.OLess; kind++ {
			for a := range 2 {
				steps = append(steps, set(kind, to, a, 0), set(kind, to, a, 1))
			}
		}
	}
	return steps
}

// S1: all code of up to two steps over two variables, with all lists of up to two terms behind it, and some other list before it.
func TestShortCode(t *testing.T) {
	steps := shortSteps()
	codes := [][]api.Step{nil}
	for _, s := range steps {
		codes = append(codes, []api.Step{s})
		for _, r := range steps {
			codes = append(codes, []api.Step{s, r})
		}
	}
	var lists [][]api.Term
	for l := range sample.ShortLists([]api.Term{num(0), num(2), variable(0), variable(1)}, 2) {
		lists = append(lists, slices.Clone(l))
	}
	haves := [][]int{{0, 0}, {1, 0}, {255, 1}, {7, 200}}
	pick := sample.Numbers()
	for _, code := range codes {
		for _, post := range lists {
			checkAhead(t, 2, code, post, haves)
			checkHolds(t, 2, lists[pick(len(lists))], code, post, haves[pick(len(haves))])
		}
	}
}

// S1: all lists of up to three terms, before and behind a few steps.
func TestShortLists(t *testing.T) {
	leaves := []api.Term{num(1), num(255), variable(0), variable(1)}
	codes := [][]api.Step{
		nil,
		{setNum(0, 3)},
		{setVar(1, 0), set(api.OSub, 0, 0, 1)},
		{set(api.OAdd, 0, 0, 1), set(api.OSub, 1, 0, 1), set(api.OSub, 0, 0, 1)},
		{set(api.OLess, 1, 0, 1), set(api.OMul, 0, 1, 0), setNum(1, 9)},
	}
	haves := [][]int{{0, 0}, {0, 1}, {255, 0}, {3, 77}, {200, 200}}
	for _, code := range codes {
		for l := range sample.ShortLists(leaves, 3) {
			checkAhead(t, 2, code, l, haves)
			for _, have := range haves {
				checkHolds(t, 2, l, code, []api.Term{variable(0)}, have)
				checkHolds(t, 2, []api.Term{variable(1)}, code, l, have)
			}
		}
	}
}

// S1: code and lists of all lengths that follow a fixed rule.
func TestLongCode(t *testing.T) {
	pick := sample.Numbers()
	long, holds := 0, 0
	const rounds = 20000
	for round := range rounds {
		vars := 1 + round%api.MaxVars
		var code []api.Step
		for range pick(api.MaxLines + 1) {
			code = append(code, sample.Step(pick, vars))
		}
		pre := sample.List(pick, 2+pick(api.MaxTerms-1), vars, api.MaxVal+1)
		post := sample.List(pick, 2+pick(api.MaxTerms-1), vars, api.MaxVal+1)
		var haves [][]int
		for range 4 {
			haves = append(haves, sample.Values(pick, vars))
		}
		checkAhead(t, vars, code, post, haves)
		if l, _ := weak.Ahead(vars, code, post); len(l) > api.MaxTerms {
			long++
		}
		if checkHolds(t, vars, pre, code, post, haves[0]) {
			holds++
		}
	}
	if long < 50 || holds < rounds/10 || holds > rounds*9/10 {
		t.Errorf("only %d lists have more than the greatest number of terms; Holds is true %d times of %d", long, holds, rounds)
	}
}
