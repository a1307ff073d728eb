package shape_test

import (
	"slices"
	"testing"

	"codemason/api"
	"codemason/block"
	"codemason/sample"
	"codemason/shape"
)

// The tests write blocks and steps with these.
var (
	stop, jump, branch  = sample.Stop, sample.Jump, sample.Branch
	setNum, setVar, set = sample.SetNum, sample.SetVar, sample.SetOp
)

// list is a list of statements.
func list(l ...api.Shape) []api.Shape { return l }

// code is an SCode with these steps.
func code(steps ...api.Step) api.Shape {
	return api.Shape{Kind: api.SCode, Test: sample.Junk, Code: steps}
}

// both is an SBoth with these two lists.
func both(test int, then, other []api.Shape) api.Shape {
	return api.Shape{Kind: api.SBoth, Test: test, Then: then, Else: other}
}

// while is an SWhile with this body.
func while(test int, body ...api.Shape) api.Shape {
	return api.Shape{Kind: api.SWhile, Test: test, Then: body}
}

// errorOf is the error of a structured program, by the document's definition.
func errorOf(vars int, l []api.Shape) api.Errno {
	if vars < 1 || vars > 6 || countStatements(l) > 8 || countSteps(l) > 20 || depthOf(l) > 5 {
		return api.ErrLarge
	}
	for _, s := range inOrder(l) {
		if e := errorOfStatement(vars, s); e != api.OK {
			return e
		}
	}
	return api.OK
}

// countStatements is the number of all statements, also in lists that are not used.
func countStatements(l []api.Shape) int {
	count := 0
	for _, s := range l {
		count += 1 + countStatements(s.Then) + countStatements(s.Else)
	}
	return count
}

// countSteps is the number of all steps, also in lists that are not used.
func countSteps(l []api.Shape) int {
	count := 0
	for _, s := range l {
		count += len(s.Code) + countSteps(s.Then) + countSteps(s.Else)
	}
	return count
}

// depthOf is how deep lists that are not empty are nested.
func depthOf(l []api.Shape) int {
	deepest := 0
	for _, s := range l {
		deepest = max(deepest, 1, 1+depthOf(s.Then), 1+depthOf(s.Else))
	}
	return deepest
}

// inOrder lists all statements, also in lists that are not used, each before those of its Then, and these before those of its Else.
func inOrder(l []api.Shape) []api.Shape {
	var all []api.Shape
	for _, s := range l {
		all = slices.Concat(all, list(s), inOrder(s.Then), inOrder(s.Else))
	}
	return all
}

// errorOfStatement is the error of a statement, apart from those in its lists.
func errorOfStatement(vars int, s api.Shape) api.Errno {
	switch s.Kind {
	case api.SCode:
		for _, step := range s.Code {
			if e := block.Check(vars, []api.Block{stop(step)}); e != api.OK {
				return e
			}
		}
		return api.OK
	case api.SBoth, api.SWhile:
		if 0 <= s.Test && s.Test < vars {
			return api.OK
		}
		return api.ErrArg
	}
	return api.ErrKind
}

// execute runs valid statements by the document's definition, and returns how often bodies have been executed: at most so often.
func execute(l []api.Shape, have []int, most int) (vals []int, turns int, stops bool) {
	x := slices.Clone(have)
	rest := slices.Clone(l) // What is still to be executed.
	for len(rest) > 0 {
		s := rest[0]
		switch {
		case s.Kind == api.SCode:
			sample.Execute(s.Code, x)
			rest = rest[1:]
		case s.Kind == api.SBoth && x[s.Test] != 0:
			rest = slices.Concat(s.Then, rest[1:])
		case s.Kind == api.SBoth:
			rest = slices.Concat(s.Else, rest[1:])
		case x[s.Test] == 0:
			rest = rest[1:]
		case turns == most:
			return nil, turns, false
		default:
			turns++
			rest = slices.Concat(s.Then, rest)
		}
	}
	return x, turns, true
}

// executeBlocks runs valid blocks by the document's definition, and returns how many have been executed: at most so many.
func executeBlocks(p []api.Block, have []int, most int) (vals []int, turns int, stops bool) {
	x := slices.Clone(have)
	for at := 0; at != -1; turns++ {
		if turns == most {
			return nil, turns, false
		}
		at = sample.RunBlock(p[at], x)
	}
	return x, turns, true
}

// checkRejected checks that all functions of structured programs return this error.
func checkRejected(t *testing.T, name string, vars int, l []api.Shape, want api.Errno) {
	t.Helper()
	if e := shape.Check(vars, l); e != want {
		t.Errorf("%s: Check(%d, ..) = %v, want %v", name, vars, e, want)
	}
	for _, have := range [][]int{make([]int, max(0, min(vars, api.MaxVars+1))), nil, {-1, 300}} {
		if vals, e := shape.Run(vars, l, have); len(vals) != 0 || e != want {
			t.Errorf("%s: Run(%d, .., %v) = %v, %v, want an empty list, %v", name, vars, have, vals, e, want)
		}
	}
	if p, e := shape.Flat(vars, l); len(p) != 0 || e != want {
		t.Errorf("%s: Flat(%d, ..) = %v, %v, want an empty list, %v", name, vars, p, e, want)
	}
}

// checkRun compares Run with the document's definition for valid arguments, and reports whether the program stops.
func checkRun(t *testing.T, vars int, l []api.Shape, have []int) bool {
	t.Helper()
	want, _, stops := execute(l, have, 200)
	wantError := api.OK
	if !stops {
		wantError = api.ErrLoop
	}
	if vals, e := shape.Run(vars, l, have); !slices.Equal(vals, want) || e != wantError {
		t.Fatalf("Run(%d, %v, %v) = %v, %v, want %v, %v", vars, l, have, vals, e, want, wantError)
	}
	return stops
}

// checkFlat checks that Flat returns a program that stops with the same values where the structured program stops within so many turns, and returns the number of initial values for which it does.
func checkFlat(t *testing.T, vars int, l []api.Shape, haves [][]int, most int) int {
	t.Helper()
	p, e := shape.Flat(vars, l)
	if e != api.OK || len(p) == 0 {
		t.Fatalf("Flat(%d, %v) = %v, %v, want a program", vars, l, p, e)
	}
	for i, b := range p {
		if !isPlainBlock(vars, len(p), b) {
			t.Fatalf("Flat(%d, %v) = %v, where block %d is not valid or has numbers in fields that are not used", vars, l, p, i)
		}
	}
	stopped := 0
	for _, have := range haves {
		want, _, stops := execute(l, have, most)
		if !stops {
			continue
		}
		stopped++
		// No turn takes more blocks than there are.
		if vals, _, _ := executeBlocks(p, have, (most+1)*len(p)); !slices.Equal(vals, want) {
			t.Fatalf("Flat(%d, %v) = %v, which yields %v from %v, want %v", vars, l, p, vals, have, want)
		}
	}
	return stopped
}

// isPlainBlock reports whether a block of a program with so many blocks is valid, with 0 in the fields that are not used.
func isPlainBlock(vars, blocks int, b api.Block) bool {
	if !arePlainSteps(vars, b.Code) {
		return false
	}
	isBlock := func(to int) bool { return 0 <= to && to < blocks }
	if b.Test == -1 {
		return (b.Then == -1 || isBlock(b.Then)) && b.Else == 0
	}
	return 0 <= b.Test && b.Test < vars && isBlock(b.Then) && isBlock(b.Else)
}

// arePlainSteps reports whether steps are valid, with 0 in the fields that are not used.
func arePlainSteps(vars int, code []api.Step) bool {
	for _, s := range code {
		if block.Check(vars, []api.Block{stop(s)}) != api.OK {
			return false
		}
		leaf := s.Op == api.ONum || s.Op == api.OVar
		if leaf && (s.A != 0 || s.B != 0) || !leaf && s.Val != 0 {
			return false
		}
	}
	return true
}

// checkBuild checks that Build returns a structured program with at most one SWhile that stops with the same values, and with as few turns, where the program stops within so many blocks. It returns the number of initial values for which it does.
func checkBuild(t *testing.T, vars int, p []api.Block, haves [][]int, most int) int {
	t.Helper()
	l, e := shape.Build(vars, p)
	if e != api.OK || len(l) == 0 {
		t.Fatalf("Build(%d, %v) = %v, %v, want statements", vars, p, l, e)
	}
	if countLoops(l) > 1 || !arePlainStatements(vars+2, l) {
		t.Fatalf("Build(%d, %v) = %v, which has %d SWhile, or is not valid, or has something in fields that are not used", vars, p, l, countLoops(l))
	}
	stopped := 0
	for _, have := range haves {
		want, turns, stops := executeBlocks(p, have, most)
		if !stops {
			continue
		}
		stopped++
		mostTurns := 200
		if turns > 200 {
			mostTurns = 100 * turns
		}
		vals, _, stops := execute(l, append(slices.Clone(have), 0, 0), mostTurns)
		if !stops || !slices.Equal(vals[:vars], want) {
			t.Fatalf("Build(%d, %v) = %v, which yields %v, %v from %v, want %v", vars, p, l, vals, stops, have, want)
		}
		checkBuiltRun(t, vars, l, have)
	}
	return stopped
}

// checkBuiltRun compares Run with the definition for a result of Build, unless it is too large.
func checkBuiltRun(t *testing.T, vars int, l []api.Shape, have []int) {
	t.Helper()
	if errorOf(vars+2, l) == api.OK {
		checkRun(t, vars+2, l, append(slices.Clone(have), 0, 0))
	}
}

// countLoops is the number of all SWhile.
func countLoops(l []api.Shape) int {
	count := 0
	for _, s := range l {
		if s.Kind == api.SWhile {
			count++
		}
		count += countLoops(s.Then) + countLoops(s.Else)
	}
	return count
}

// arePlainStatements reports whether statements are valid, apart from their number and nesting, with nothing in the fields that are not used.
func arePlainStatements(vars int, l []api.Shape) bool {
	for _, s := range l {
		if errorOfStatement(vars, s) != api.OK || !arePlainStatements(vars, s.Then) || !arePlainStatements(vars, s.Else) {
			return false
		}
		if s.Kind == api.SCode && (!arePlainSteps(vars, s.Code) || s.Test != 0 || len(s.Then) > 0) {
			return false
		}
		if s.Kind != api.SCode && len(s.Code) > 0 || s.Kind != api.SBoth && len(s.Else) > 0 {
			return false
		}
	}
	return true
}
