package shape

import (
	"codemason/api"
	"codemason/term"
)

// none stands in Test where no variable is tested, and in Then where execution stops.
const none = -1

// Flat converts a structured program to a program that stops with the same values.
func Flat(vars int, l []api.Shape) ([]api.Block, api.Errno) {
	if e := Check(vars, l); e != api.OK {
		return nil, e
	}
	var f flattener
	f.add(l, f.newBlock())
	return f.p, api.OK
}

// flattener has the blocks that have been built so far.
type flattener struct{ p []api.Block }

// newBlock adds a block behind which the program stops, as long as nothing else is said, and returns its number.
func (f *flattener) newBlock() int {
	f.p = append(f.p, api.Block{Test: none, Then: none})
	return len(f.p) - 1
}

// add lets statements be executed from the end of a block on, and returns the block at whose end they have been executed.
func (f *flattener) add(l []api.Shape, at int) int {
	for _, s := range l {
		switch s.Kind {
		case api.SCode:
			f.p[at].Code = append(f.p[at].Code, copySteps(s.Code)...)
		case api.SBoth:
			at = f.addBoth(s, at)
		case api.SWhile:
			at = f.addWhile(s, at)
		}
	}
	return at
}

// addBoth is add for an SBoth.
func (f *flattener) addBoth(s api.Shape, at int) int {
	after := f.newBlock()
	then, other := f.side(s.Then, after), f.side(s.Else, after)
	f.branch(at, s.Test, then, other)
	return after
}

// side returns the block with which a list starts that continues with the block after: that block itself if there is nothing to execute.
func (f *flattener) side(l []api.Shape, after int) int {
	if len(l) == 0 {
		return after
	}
	first := f.newBlock()
	end := f.add(l, first)
	f.p[end].Then = after
	return first
}

// addWhile is add for an SWhile.
func (f *flattener) addWhile(s api.Shape, at int) int {
	after, body := f.newBlock(), f.newBlock()
	end := f.add(s.Then, body)
	// The variable is tested at both places from which the body may be executed: no block is needed for the test alone.
	f.branch(at, s.Test, body, after)
	f.branch(end, s.Test, body, after)
	return after
}

// branch lets a block end with the test of a variable.
func (f *flattener) branch(at, test, then, other int) {
	f.p[at].Test, f.p[at].Then, f.p[at].Else = test, then, other
}

// copySteps returns, as a new list, these steps with 0 in the fields that they do not use.
func copySteps(steps []api.Step) []api.Step {
	var list []api.Step
	for _, s := range steps {
		if term.IsLeaf(s.Op) {
			s.A, s.B = 0, 0
		} else {
			s.Val = 0
		}
		list = append(list, s)
	}
	return list
}
