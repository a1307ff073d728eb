package shape

import (
	"codemason/api"
	"codemason/block"
)

// Build converts a program to a structured program over two more variables, which must be 0 at the start, that stops with the same values.
func Build(vars int, p []api.Block) ([]api.Shape, api.Errno) {
	if e := block.Check(vars, p); e != api.OK {
		return nil, e
	}
	if vars > api.MaxVars-2 {
		return nil, api.ErrLarge
	}
	b := builder{p: p, due: vars, going: vars + 1}
	start := codeOf(nil, setNumber(b.going, 1))
	return []api.Shape{start, {Kind: api.SWhile, Test: b.going, Then: b.executeDue(0)}}, api.OK
}

// builder builds the body of the SWhile. It executes one block each time, so that there are not more turns than the program takes.
type builder struct {
	p     []api.Block
	due   int // The variable that has the number of the block that is due, which is to be executed next.
	going int // The variable that is 1 until the program stops.
}

// executeDue returns statements that execute the block that is due where it is none before block i. They start where the variable has its number less i-1, or for block 0 just its number.
func (b builder) executeDue(i int) []api.Shape {
	if i == len(b.p)-1 {
		return b.executeBlock(b.p[i])
	}
	var list []api.Shape
	if i > 0 {
		// A variable that is 1 wherever this is executed serves as the number.
		list = append(list, codeOf(nil, api.Step{Op: api.OSub, To: b.due, A: b.due, B: b.going}))
	}
	return append(list, api.Shape{Kind: api.SBoth, Test: b.due, Then: b.executeDue(i + 1), Else: b.executeBlock(b.p[i])})
}

// executeBlock returns statements that execute a block, and behind which the right one is due.
func (b builder) executeBlock(x api.Block) []api.Shape {
	if x.Test == none {
		return []api.Shape{codeOf(x.Code, b.proceed(x.Then))}
	}
	// Else is due at first, so that the choice needs only one side.
	then := []api.Shape{codeOf(nil, b.proceed(x.Then))}
	return []api.Shape{codeOf(x.Code, b.proceed(x.Else)), {Kind: api.SBoth, Test: x.Test, Then: then}}
}

// proceed returns a step behind which a block is due, or which ends the SWhile if there is none.
func (b builder) proceed(to int) api.Step {
	if to == none {
		return setNumber(b.going, 0)
	}
	return setNumber(b.due, to)
}

// codeOf returns a statement with copies of these steps, and then one more.
func codeOf(code []api.Step, last api.Step) api.Shape {
	return api.Shape{Kind: api.SCode, Code: append(copySteps(code), last)}
}

// setNumber returns a step that sets a variable to a number.
func setNumber(to, val int) api.Step { return api.Step{Op: api.ONum, To: to, Val: val} }
