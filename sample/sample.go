// Package sample has what the tests of several packages share: it is not part of the library.
package sample

import (
	"math"

	"codemason/api"
)

// Junk stands in fields that the kind of a term or step does not use.
const Junk = math.MinInt

// Num is a term with the value val.
func Num(val int) api.Term { return api.Term{Op: api.ONum, A: Junk, B: Junk, Val: val} }

// Var is a term with the value of the variable v.
func Var(v int) api.Term { return api.Term{Op: api.OVar, A: Junk, B: Junk, Val: v} }

// Op is a term with an operation of the terms a and b.
func Op(op, a, b int) api.Term { return api.Term{Op: op, A: a, B: b, Val: Junk} }

// SetNum is a step that sets register to to the number val.
func SetNum(to, val int) api.Step {
	return api.Step{Op: api.ONum, To: to, A: Junk, B: Junk, Val: val}
}

// SetVar is a step that sets register to to the value of the variable v.
func SetVar(to, v int) api.Step {
	return api.Step{Op: api.OVar, To: to, A: Junk, B: Junk, Val: v}
}

// SetOp is a step that sets register to to the result of an operation of the registers a and b.
func SetOp(op, to, a, b int) api.Step {
	return api.Step{Op: op, To: to, A: a, B: b, Val: Junk}
}

// Outside lists some numbers that are negative or not below count.
func Outside(count int) []int {
	return []int{math.MinInt, -1, count, count + 1, math.MaxInt}
}

// Numbers returns a function that yields numbers below its argument, by a fixed rule.
func Numbers() func(n int) int {
	state := uint32(1)
	return func(n int) int {
		state = state*1664525 + 1013904223
		return int(state>>16) % n
	}
}

// Apply is the value of an operation by the document's definition.
func Apply(op, a, b int) int {
	switch op {
	case api.OAdd:
		return int(uint8(a + b))
	case api.OSub:
		return int(uint8(a - b))
	case api.OMul:
		return int(uint8(a * b))
	}
	if a < b {
		return 1
	}
	return 0
}

// Reckon is the value of term i by the document's definition.
func Reckon(l []api.Term, i int, have []int) int {
	switch x := l[i]; x.Op {
	case api.ONum:
		return x.Val
	case api.OVar:
		return have[x.Val]
	default:
		return Apply(x.Op, Reckon(l, x.A, have), Reckon(l, x.B, have))
	}
}
