// Package sample has what the tests of several packages share: it is not part of the library.
package sample

import (
	"iter"
	"math"
	"slices"

	"codemason/api"
)

// Junk stands in fields that the kind of a term or step does not use.
const Junk = math.MinInt

// Num is a term with the value val.
func Num(val int) api.Term { return api.Term{Op: api.ONum, A: Junk, B: Junk, Val: val} }

// Var is a term with the value of the variable v.
func Var(v int) api.Term { return api.Term{Op: api.OVar, A: Junk, B: Junk, Val: v} }

// Op is a term with an operation of the terms a and b.
func Op(op, a, b int) api.Term { return api.Term{Op: op, A: a, B: b, Val: Junk} }

// SetNum is a step that sets register to to the number val.
func SetNum(to, val int) api.Step {
	return api.Step{Op: api.ONum, To: to, A: Junk, B: Junk, Val: val}
}

// SetVar is a step that sets register to to the value of the variable v.
func SetVar(to, v int) api.Step {
	return api.Step{Op: api.OVar, To: to, A: Junk, B: Junk, Val: v}
}

// SetOp is a step that sets register to to the result of an operation of the registers a and b.
func SetOp(op, to, a, b int) api.Step {
	return api.Step{Op: op, To: to, A: a, B: b, Val: Junk}
}

// Outside lists some numbers that are negative or not below count.
func Outside(count int) []int {
	return []int{math.MinInt, -1, count, count + 1, math.MaxInt}
}

// Numbers returns a function that yields numbers below its argument, by a fixed rule.
func Numbers() func(n int) int {
	state := uint32(1)
	return func(n int) int {
		state = state*1664525 + 1013904223
		return int(state>>16) % n
	}
}

// Overlap marks the elements of each list with its number, and reports whether another list changes them by that.
func Overlap[E any](lists [][]E, with func(mark int) E, markOf func(E) int) bool {
	for i, list := range lists {
		for k := range list[:cap(list)] {
			list[:cap(list)][k] = with(i)
		}
	}
	for i, list := range lists {
		if slices.ContainsFunc(list[:cap(list)], func(e E) bool { return markOf(e) != i }) {
			return true
		}
	}
	return false
}

// Apply is the value of an operation by the document's definition.
func Apply(op, a, b int) int {
	switch op {
	case api.OAdd:
		return int(uint8(a + b))
	case api.OSub:
		return int(uint8(a - b))
	case api.OMul:
		return int(uint8(a * b))
	}
	if a < b {
		return 1
	}
	return 0
}

// Reckon is the value of term i by the document's definition.
func Reckon(l []api.Term, i int, have []int) int {
	switch x := l[i]; x.Op {
	case api.ONum:
		return x.Val
	case api.OVar:
		return have[x.Val]
	default:
		return Apply(x.Op, Reckon(l, x.A, have), Reckon(l, x.B, have))
	}
}

// BadHave has values of variables that are invalid.
type BadHave struct {
	Name string
	Vars int
	Have []int
	Want api.Errno
}

// BadHaves lists invalid values of variables, which all functions with such an argument reject.
func BadHaves() []BadHave {
	return []BadHave{
		{"no values", 1, nil, api.ErrForm},
		{"too few values", 2, []int{1}, api.ErrForm},
		{"too many values", 2, []int{1, 2, 3}, api.ErrForm},
		{"a value for no variables", 0, []int{1}, api.ErrForm},
		{"too few values, one of them invalid", 2, []int{-1}, api.ErrForm},
		{"value -1", 2, []int{-1, 0}, api.ErrRange},
		{"value -1 of the last variable", 2, []int{0, -1}, api.ErrRange},
		{"value 256", 2, []int{256, 0}, api.ErrRange},
		{"value 256 of the last variable", 2, []int{0, 256}, api.ErrRange},
		{"smallest value", 1, []int{math.MinInt}, api.ErrRange},
		{"greatest value", 1, []int{math.MaxInt}, api.ErrRange},
	}
}

// BadList is a list that is invalid, or not of the kind that is asked for.
type BadList struct {
	Name string
	Vars int
	List []api.Term
	Want api.Errno
}

// BadLists lists invalid lists of terms, which all functions of terms reject.
func BadLists() []BadList {
	unknown, tooGreat, loose := Op(99, 0, 0), Num(256), Op(api.OAdd, 5, 5)
	bad := []BadList{
		{"nil", 0, nil, api.ErrLarge},
		{"empty", 0, []api.Term{}, api.ErrLarge},
		{"too many terms", 0, slices.Repeat([]api.Term{Num(1)}, api.MaxTerms+1), api.ErrLarge},
		{"large before kind", 7, []api.Term{unknown}, api.ErrLarge},
		{"too many before kind", 0, slices.Repeat([]api.Term{unknown}, api.MaxTerms+1), api.ErrLarge},
		{"variable 0 of 0", 0, []api.Term{Var(0)}, api.ErrRange},
		{"invalid term that is not used", 1, []api.Term{tooGreat, Num(1)}, api.ErrRange},
		{"first is range", 1, []api.Term{tooGreat, unknown, loose}, api.ErrRange},
		{"first is kind", 1, []api.Term{Num(1), unknown, tooGreat, loose}, api.ErrKind},
		{"first is arg", 1, []api.Term{loose, tooGreat, unknown}, api.ErrArg},
	}
	for _, vars := range Outside(api.MaxVars + 1) {
		bad = append(bad, BadList{"vars", vars, []api.Term{Num(1)}, api.ErrLarge})
	}
	for _, val := range Outside(api.MaxVal + 1) {
		bad = append(bad, BadList{"number", 0, []api.Term{Num(val)}, api.ErrRange})
	}
	for _, val := range Outside(2) {
		bad = append(bad, BadList{"variable", 2, []api.Term{Var(val)}, api.ErrRange})
	}
	for _, kind := range []int{math.MinInt, -1, 0, api.OLess + 1, math.MaxInt} {
		// Neither Val nor A and B matter where the kind is unknown.
		bad = append(bad, BadList{"kind", 1, []api.Term{Num(1), {Op: kind, A: -1, B: 9, Val: -1}}, api.ErrKind})
	}
	for kind := api.OAdd; kind <= api.OLess; kind++ {
		for _, arg := range Outside(1) {
			bad = append(bad,
				BadList{"A", 1, []api.Term{Num(1), Op(kind, arg, 0), Num(1)}, api.ErrArg},
				BadList{"B", 1, []api.Term{Num(1), Op(kind, 0, arg), Num(1)}, api.ErrArg})
		}
		bad = append(bad, BadList{"no term before", 1, []api.Term{Op(kind, 0, 0)}, api.ErrArg})
	}
	return bad
}

// BadTrees lists invalid lists and lists that are not trees, which all functions of trees reject.
func BadTrees() []BadList {
	twice := []api.Term{Var(0), Op(api.OAdd, 0, 0)}
	return append(BadLists(), []BadList{
		{"kind before form", 1, append(slices.Clone(twice), Op(99, 0, 0)), api.ErrKind},
		{"arg before form", 1, append(slices.Clone(twice), Op(api.OAdd, 0, 3)), api.ErrArg},
		{"both operands", 1, twice, api.ErrForm},
		{"not an operand", 1, []api.Term{Num(1), Num(2)}, api.ErrForm},
		{"an operator that is not an operand", 1, []api.Term{Num(1), Num(2), Op(api.OAdd, 0, 1), Num(3)}, api.ErrForm},
		{"operand of two terms", 1, []api.Term{
			Num(1), Num(2), Op(api.OAdd, 0, 1), Op(api.OMul, 2, 0)}, api.ErrForm},
		{"one twice, another one never", 1, []api.Term{
			Num(1), Num(2), Num(3), Op(api.OAdd, 0, 1), Op(api.OMul, 3, 1)}, api.ErrForm},
		{"an even number of terms", 1, append(slices.Repeat([]api.Term{Num(1)}, 15), Op(api.OAdd, 0, 1)), api.ErrForm},
	}...)
}

// ShortLists yields all lists of 1 to most terms with these leaves. A list is valid until the next one is yielded.
func ShortLists(leaves []api.Term, most int) iter.Seq[[]api.Term] {
	return func(yield func(l []api.Term) bool) {
		var extend func(l []api.Term) bool
		extend = func(l []api.Term) bool {
			if len(l) > 0 && !yield(l) {
				return false
			}
			if len(l) == most {
				return true
			}
			for _, t := range slices.Concat(leaves, operations(len(l))) {
				if !extend(append(l, t)) {
					return false
				}
			}
			return true
		}
		extend(nil)
	}
}

// operations lists all operations of two of so many terms.
func operations(terms int) []api.Term {
	var all []api.Term
	for kind := api.OAdd; kind <= api.OLess; kind++ {
		for a := range terms {
			for b := range terms {
				all = append(all, Op(kind, a, b))
			}
		}
	}
	return all
}

// List builds a list of so many terms over so many variables and numbers: at least one of each.
func List(next func(int) int, terms, vars, numbers int) []api.Term {
	l := []api.Term{Num(next(numbers)), Var(next(vars))}
	for len(l) < terms {
		switch next(6) {
		case 0:
			l = append(l, Num(next(numbers)))
		case 1:
			l = append(l, Var(next(vars)))
		default:
			l = append(l, Op(operator(next), next(len(l)), next(len(l))))
		}
	}
	return l
}

// leaf returns a number or a variable.
func leaf(next func(int) int) api.Term {
	if next(2) == 0 {
		return Num(next(api.MaxVal + 1))
	}
	return Var(next(api.MaxVars))
}

// operator returns one of the operations that have operands.
func operator(next func(int) int) int { return api.OAdd + next(4) }

// Shapes lists a tree of each shape that has so many leaves, in postorder.
func Shapes(next func(int) int, leaves int) [][]api.Term {
	if leaves == 1 {
		return [][]api.Term{{leaf(next)}}
	}
	var all [][]api.Term
	for left := 1; left < leaves; left++ {
		for _, a := range Shapes(next, left) {
			for _, b := range Shapes(next, leaves-left) {
				all = append(all, combine(a, b, operator(next)))
			}
		}
	}
	return all
}

// combine returns the terms of two trees, and then an operation of them.
func combine(a, b []api.Term, kind int) []api.Term {
	l := slices.Clone(a)
	for _, t := range b {
		if t.Op != api.ONum && t.Op != api.OVar {
			t = Op(t.Op, t.A+len(a), t.B+len(a))
		}
		l = append(l, t)
	}
	return append(l, Op(kind, len(a)-1, len(l)-1))
}

// Tree builds a tree from so many leaves, with terms at any place before their use.
func Tree(next func(int) int, leaves int) []api.Term {
	var l []api.Term
	var free []int
	take := func() int {
		k := next(len(free))
		i := free[k]
		free = slices.Delete(free, k, k+1)
		return i
	}
	for leaves > 0 || len(free) > 1 {
		if len(free) > 1 && (leaves == 0 || next(2) == 0) {
			a := take()
			l = append(l, Op(operator(next), a, take()))
		} else {
			l = append(l, leaf(next))
			leaves--
		}
		free = append(free, len(l)-1)
	}
	return l
}
