// Package term evaluates, inspects and folds expressions that are given as lists of terms: see doc/01-term.md.
package term

import (
	"slices"

	"codemason/api"
)

// modulus is the number of different values.
const modulus = api.MaxVal + 1

// Check validates a list of terms over the variables 0 to vars-1.
func Check(vars int, l []api.Term) api.Errno {
	if vars < 0 || vars > api.MaxVars || len(l) == 0 || len(l) > api.MaxTerms {
		return api.ErrLarge
	}
	for i, t := range l {
		if e := checkTerm(vars, i, t); e != api.OK {
			return e
		}
	}
	return api.OK
}

// checkTerm validates a term that has the given number of terms before it.
func checkTerm(vars, before int, t api.Term) api.Errno {
	if e := CheckOperation(vars, t.Op, t.Val); e != api.OK {
		return e
	}
	isBefore := below(before)
	if !IsLeaf(t.Op) && (!isBefore(t.A) || !isBefore(t.B)) {
		return api.ErrArg
	}
	return api.OK
}

// CheckOperation validates an operation and, if it is a number or a variable, val as that.
func CheckOperation(vars, op, val int) api.Errno {
	isValue, isVar := below(modulus), below(vars)
	switch op {
	case api.ONum:
		if !isValue(val) {
			return api.ErrRange
		}
	case api.OVar:
		if !isVar(val) {
			return api.ErrRange
		}
	case api.OAdd, api.OSub, api.OMul, api.OLess:
	default:
		return api.ErrKind
	}
	return api.OK
}

// below returns a check whether a value is one of the numbers 0 to count-1.
func below(count int) func(v int) bool {
	return func(v int) bool { return v >= 0 && v < count }
}

// IsLeaf reports whether the operation is a number or a variable, which has no operands A and B.
func IsLeaf(op int) bool {
	return op == api.ONum || op == api.OVar
}

// Value returns the value of the last term, where have holds the values of the variables.
func Value(vars int, l []api.Term, have []int) (int, api.Errno) {
	if e := Check(vars, l); e != api.OK {
		return 0, e
	}
	if e := CheckHave(vars, have); e != api.OK {
		return 0, e
	}
	vals := make([]int, len(l))
	for i, t := range l {
		switch t.Op {
		case api.ONum:
			vals[i] = t.Val
		case api.OVar:
			vals[i] = have[t.Val]
		default:
			vals[i] = Apply(t.Op, vals[t.A], vals[t.B])
		}
	}
	return vals[len(vals)-1], api.OK
}

// CheckHave validates the values of the variables 0 to vars-1.
func CheckHave(vars int, have []int) api.Errno {
	if len(have) != vars {
		return api.ErrForm
	}
	isValue := below(modulus)
	for _, v := range have {
		if !isValue(v) {
			return api.ErrRange
		}
	}
	return api.OK
}

// Apply returns the value of an operation other than ONum and OVar for the values a and b.
func Apply(op, a, b int) int {
	switch op {
	case api.OAdd:
		return (a + b) % modulus
	case api.OSub:
		// The remainder of a negative number would be negative.
		return (a - b + modulus) % modulus
	case api.OMul:
		return a * b % modulus
	}
	if a < b {
		return 1
	}
	return 0
}

// Uses returns the set of the variables on which the last term depends.
func Uses(vars int, l []api.Term) (uint32, api.Errno) {
	if e := Check(vars, l); e != api.OK {
		return 0, e
	}
	var set uint32
	for i, needed := range needs(l) {
		if needed && l[i].Op == api.OVar {
			set |= 1 << l[i].Val
		}
	}
	return set, api.OK
}

// needs tells, for each term of a valid list, whether it is the last one or one on which that depends.
func needs(l []api.Term) []bool {
	needed := make([]bool, len(l))
	needed[len(l)-1] = true
	// Terms depend on preceding ones only: backwards, each is settled before it is visited.
	for i, t := range slices.Backward(l) {
		if needed[i] && !IsLeaf(t.Op) {
			needed[t.A], needed[t.B] = true, true
		}
	}
	return needed
}

// Fold returns a list with the same value in which numbers are combined and no term is superfluous.
func Fold(vars int, l []api.Term) ([]api.Term, api.Errno) {
	if e := Check(vars, l); e != api.OK {
		return nil, e
	}
	return Prune(vars, combine(l))
}

// combine replaces each operator of two numbers by a number, and sets unused fields to 0.
func combine(l []api.Term) []api.Term {
	out := make([]api.Term, len(l))
	for i, t := range l {
		out[i] = combineTerm(t, out[:i])
	}
	return out
}

// combineTerm combines a term of a list, the terms before which are combined already.
func combineTerm(t api.Term, before []api.Term) api.Term {
	if IsLeaf(t.Op) {
		return api.Term{Op: t.Op, Val: t.Val}
	}
	a, b := before[t.A], before[t.B]
	if a.Op == api.ONum && b.Op == api.ONum {
		return api.Term{Op: api.ONum, Val: Apply(t.Op, a.Val, b.Val)}
	}
	return api.Term{Op: t.Op, A: t.A, B: t.B}
}

// Prune returns the last term and those on which it depends, with A and B renumbered.
func Prune(vars int, l []api.Term) ([]api.Term, api.Errno) {
	if e := Check(vars, l); e != api.OK {
		return nil, e
	}
	var kept []api.Term
	place := make([]int, len(l))
	for i, needed := range needs(l) {
		if !needed {
			continue
		}
		t := l[i]
		if !IsLeaf(t.Op) {
			t.A, t.B = place[t.A], place[t.B]
		}
		place[i] = len(kept)
		kept = append(kept, t)
	}
	return kept, api.OK
}
