package cut_test

import (
	"math"
	"slices"
	"testing"

	"codemason/api"
	"codemason/cut"
	"codemason/sample"
)

// The tests write blocks and steps with these.
var (
	stop, jump, branch  = sample.Stop, sample.Jump, sample.Branch
	setNum, setVar, set = sample.SetNum, sample.SetVar, sample.SetOp
)

// cutTo is a block that Slice returns if the Test is not required: it continues with the block to, or stops.
func cutTo(to int, code ...api.Step) api.Block {
	return api.Block{Code: code, Test: -1, Then: to, Else: 0}
}

// checkRejected checks that both functions return this error.
func checkRejected(t *testing.T, name string, vars int, p []api.Block, want uint32, wantError api.Errno) {
	t.Helper()
	if steps, tests, e := cut.Needs(vars, p, want); len(steps) != 0 || tests != 0 || e != wantError {
		t.Errorf("%s: Needs(%d, %v, %b) = %v, %b, %v, want an empty list, 0, %v", name, vars, p, want, steps, tests, e, wantError)
	}
	if q, e := cut.Slice(vars, p, want); len(q) != 0 || e != wantError {
		t.Errorf("%s: Slice(%d, %v, %b) = %v, %v, want an empty list, %v", name, vars, p, want, q, e, wantError)
	}
}

// T1, T2: invalid programs, before sets with other elements.
func TestInvalidPrograms(t *testing.T) {
	for _, c := range sample.BadPrograms() {
		for _, want := range []uint32{0, 1, 1 << api.MaxVars, math.MaxUint32} {
			checkRejected(t, c.Name, c.Vars, c.Program, want, c.Want)
		}
	}
}

// T1, T2: each element that is not a variable, alone and together with all variables, before blocks from which the program cannot stop; and the set of all variables.
func TestInvalidSets(t *testing.T) {
	for vars := 1; vars <= api.MaxVars; vars++ {
		all := uint32(1)<<vars - 1
		for _, p := range [][]api.Block{{stop()}, {jump(0)}, {stop(setNum(0, 1))}, {branch(0, 1, 2), jump(1), stop()}} {
			for v := vars; v < 32; v++ {
				checkRejected(t, "one element", vars, p, 1<<v, api.ErrRange)
				checkRejected(t, "all variables and one more", vars, p, all|1<<v, api.ErrRange)
			}
			checkRejected(t, "all bits", vars, p, math.MaxUint32, api.ErrRange)
			checkDefinitions(t, vars, p, all)
		}
	}
}

// T1, T2: reached blocks from which no block that stops can be reached.
func TestCannotStop(t *testing.T) {
	for _, c := range []struct {
		name string
		p    []api.Block
	}{
		{"one block", []api.Block{jump(0)}},
		{"one block with a Test", []api.Block{branch(0, 0, 0, setNum(0, 0))}},
		{"a circle", []api.Block{jump(1), jump(2), branch(0, 0, 1)}},
		{"a block that stops but is not reached", []api.Block{jump(0), stop()}},
		{"Then does not stop", []api.Block{branch(0, 1, 2), jump(1), stop()}},
		{"Else does not stop", []api.Block{branch(0, 2, 1), jump(1), stop()}},
		{"a way that is never taken", []api.Block{branch(0, 1, 2, setNum(0, 0)), jump(1), stop()}},
		{"Else without Test stops", []api.Block{{Test: -1, Then: 1, Else: 2}, {Test: -1, Then: 0, Else: 2}, stop()}},
		{"the end of a long way", []api.Block{jump(1), jump(2), jump(3), jump(4), branch(0, 5, 6), jump(7), stop(), jump(7)}},
	} {
		for want := range uint32(4) {
			checkRejected(t, c.name, 2, c.p, want, api.ErrNone)
			checkDefinitions(t, 2, c.p, want)
		}
	}
}

// example is a program of one choice: what lies behind the Test, on either side or where both meet.
func example(then, other, end []api.Step) []api.Block {
	return []api.Block{branch(0, 1, 2), jump(3, then...), jump(3, other...), stop(end...)}
}

// T1, T2: programs that are easily sliced, the document's example first.
func TestSlice(t *testing.T) {
	one, two, down := setNum(1, 1), setNum(1, 2), set(api.OSub, 0, 0, 1)
	steps := func(s ...api.Step) []api.Step { return s }
	for _, c := range []struct {
		name  string
		set   uint32
		p     []api.Block
		tests uint32
		want  []api.Block
	}{
		{"example", 0b0100, example(steps(one), steps(two), nil), 0, []api.Block{cutTo(3), cutTo(3), cutTo(3), cutTo(-1)}},
		{"no steps", 0b0001, []api.Block{stop()}, 0, []api.Block{cutTo(-1)}},
		{"nothing is needed", 0, []api.Block{stop(one, setNum(0, 2))}, 0, []api.Block{cutTo(-1)}},
		{"everything is needed", 0b1111, []api.Block{stop(one, setNum(0, 2))}, 0, []api.Block{cutTo(-1, one, setNum(0, 2))}},
		{"only the last step counts", 0b0010, []api.Block{stop(slices.Repeat(steps(one), api.MaxLines)...)}, 0, []api.Block{cutTo(-1, one)}},
		{"a chain", 0b0001, []api.Block{stop(setVar(2, 3), one, set(api.OMul, 0, 2, 1), setVar(3, 0))}, 0,
			[]api.Block{cutTo(-1, setVar(2, 3), one, set(api.OMul, 0, 2, 1))}},
		{"a step of a variable with itself", 0b0010, []api.Block{stop(one, set(api.OAdd, 1, 1, 1))}, 0,
			[]api.Block{cutTo(-1, one, set(api.OAdd, 1, 1, 1))}},
		{"a step on one side", 0b0010, example(steps(one), nil, nil), 0b0001,
			[]api.Block{branch(0, 1, 2), cutTo(3, one), cutTo(3), cutTo(-1)}},
		{"a step on the other side", 0b0010, example(nil, steps(one), nil), 0b0001,
			[]api.Block{branch(0, 1, 2), cutTo(3), cutTo(3, one), cutTo(-1)}},
		{"set again where both sides meet", 0b0010, example(steps(one), nil, steps(two)), 0,
			[]api.Block{cutTo(3), cutTo(3), cutTo(3), cutTo(-1, two)}},
		{"set before the Test", 0b0010, []api.Block{branch(0, 1, 2, one), jump(2), stop()}, 0,
			[]api.Block{cutTo(2, one), cutTo(2), cutTo(-1)}},
		{"a step for a Test", 0b0010, []api.Block{branch(0, 1, 2, setVar(0, 2), setNum(3, 4)), jump(2, one), stop()}, 0b0001,
			[]api.Block{branch(0, 1, 2, setVar(0, 2)), cutTo(2, one), cutTo(-1)}},
		{"a step for a Test that is not required", 0b0100, []api.Block{branch(0, 1, 2, setVar(0, 2)), jump(2, one), stop()}, 0,
			[]api.Block{cutTo(2), cutTo(2), cutTo(-1)}},
		{"a step behind its use in a Test", 0b0010, []api.Block{branch(0, 1, 2), jump(2, one, setNum(0, 1)), stop(setNum(0, 2))}, 0b0001,
			[]api.Block{branch(0, 1, 2), cutTo(2, one), cutTo(-1)}},
		{"a Test behind a Test", 0b0010,
			[]api.Block{branch(0, 1, 4), branch(2, 2, 3), jump(3, one), jump(4), stop()}, 0b0011,
			[]api.Block{branch(0, 1, 4), branch(2, 2, 3), cutTo(3, one), cutTo(4), cutTo(-1)}},
		{"only the outer Test", 0b1000,
			[]api.Block{branch(0, 1, 4), branch(2, 2, 3), jump(3, one), jump(4, setNum(3, 1)), stop()}, 0b0001,
			[]api.Block{branch(0, 1, 4), cutTo(3), cutTo(3), cutTo(4, setNum(3, 1)), cutTo(-1)}},
		{"a step for a Test under a Test", 0b1000,
			[]api.Block{branch(0, 1, 2), jump(2, setNum(2, 0)), branch(2, 3, 4), jump(4, setNum(3, 1)), stop()}, 0b0101,
			[]api.Block{branch(0, 1, 2), cutTo(2, setNum(2, 0)), branch(2, 3, 4), cutTo(4, setNum(3, 1)), cutTo(-1)}},
		{"a Test under a Test for a Test", 0b0010,
			[]api.Block{branch(0, 1, 4), branch(2, 2, 3), jump(3, setNum(3, 1)), jump(4), branch(3, 5, 6), jump(6, one), stop()}, 0b10011,
			[]api.Block{branch(0, 1, 4), branch(2, 2, 3), cutTo(3, setNum(3, 1)), cutTo(4), branch(3, 5, 6), cutTo(6, one), cutTo(-1)}},
		{"a loop that sets what is needed", 0b0001, []api.Block{jump(1, one), branch(0, 1, 2, down, setVar(2, 0)), stop()}, 0b0010,
			[]api.Block{cutTo(1, one), branch(0, 1, 2, down), cutTo(-1)}},
		{"a loop that sets nothing that is needed", 0b0010, []api.Block{jump(1, one), branch(0, 1, 2, down), stop()}, 0,
			[]api.Block{cutTo(1, one), cutTo(2), cutTo(-1)}},
		{"a loop without steps", 0b0001, []api.Block{branch(0, 0, 1), stop()}, 0, []api.Block{cutTo(1), cutTo(-1)}},
		{"a loop of two blocks", 0b0100, []api.Block{branch(0, 1, 2, down), jump(0, set(api.OAdd, 2, 2, 1)), stop()}, 0b0001,
			[]api.Block{branch(0, 1, 2, down), cutTo(0, set(api.OAdd, 2, 2, 1)), cutTo(-1)}},
		{"a step that is used in the next turn", 0b0100, []api.Block{branch(0, 0, 1, setVar(2, 3), setVar(3, 1), down), stop()}, 0b0001,
			[]api.Block{branch(0, 0, 1, setVar(2, 3), setVar(3, 1), down), cutTo(-1)}},
		{"a step in a loop for itself only", 0, []api.Block{branch(0, 0, 1, set(api.OAdd, 2, 2, 2)), stop()}, 0,
			[]api.Block{cutTo(1), cutTo(-1)}},
		{"steps in a loop for each other only", 0, []api.Block{branch(2, 0, 1, setVar(2, 3), setVar(3, 2)), stop()}, 0,
			[]api.Block{cutTo(1), cutTo(-1)}},
		{"one side stops", 0b0010, []api.Block{branch(0, 1, 2), stop(), stop(one)}, 0b0001,
			[]api.Block{branch(0, 1, 2), cutTo(-1), cutTo(-1, one)}},
		{"both sides stop, and nothing there is needed", 0b0100, []api.Block{branch(0, 1, 2, setNum(2, 1)), stop(two), stop(one)}, 0,
			[]api.Block{cutTo(-1, setNum(2, 1)), cutTo(-1), cutTo(-1)}},
		{"a way around a loop from two sides", 0, []api.Block{branch(0, 1, 2, one), branch(1, 2, 3), branch(2, 1, 3), stop()}, 0,
			[]api.Block{cutTo(3), cutTo(3), cutTo(3), cutTo(-1)}},
		{"Then and Else are the same block", 0b0001, []api.Block{branch(1, 1, 1, two), stop(setNum(0, 1))}, 0,
			[]api.Block{cutTo(1), cutTo(-1, setNum(0, 1))}},
		{"Else without Test", 0b0010, []api.Block{{Test: -1, Then: 1, Else: 2}, {Test: -1, Then: -1, Else: 1}, stop(one)}, 0,
			[]api.Block{cutTo(1), cutTo(-1), cutTo(-1, one)}},
		{"fields that are not used stay as they are in steps", 0b0001, []api.Block{stop(api.Step{Op: api.ONum, To: 0, A: 7, B: 8, Val: 9})}, 0,
			[]api.Block{cutTo(-1, api.Step{Op: api.ONum, To: 0, A: 7, B: 8, Val: 9})}},
		{"a block that is not reached", 0b0010, []api.Block{stop(one), branch(0, 2, 0, two), jump(0, two), branch(1, 2, 0)}, 0,
			[]api.Block{cutTo(-1, one), cutTo(0), cutTo(0), cutTo(0)}},
		{"a Test that is not reached", 0b0100, []api.Block{stop(), branch(0, 2, 0, one), jump(0, setVar(2, 1))}, 0b0010,
			[]api.Block{cutTo(-1), branch(0, 2, 0, one), cutTo(0, setVar(2, 1))}},
		{"blocks that are not reached and cannot stop", 0b0011, []api.Block{stop(one), jump(2, one), branch(1, 1, 2, one), jump(0, two)}, 0,
			[]api.Block{cutTo(-1, one), cutTo(-1), cutTo(-1), cutTo(0)}},
		{"a block that is not reached and can stop on one side", 0b0010, []api.Block{stop(), branch(0, 1, 2, one), branch(0, 2, 2, one), branch(0, 2, 0, one)}, 0,
			[]api.Block{cutTo(-1), cutTo(-1), cutTo(-1), cutTo(0, one)}},
		{"a long way, against the order of the blocks", 0b0001,
			[]api.Block{jump(7, one), stop(setVar(0, 1)), jump(1), branch(0, 2, 2), jump(3), jump(4), jump(5), jump(6, setVar(2, 1))}, 0,
			[]api.Block{cutTo(7, one), cutTo(-1, setVar(0, 1)), cutTo(1), cutTo(2), cutTo(3), cutTo(4), cutTo(5), cutTo(6)}},
	} {
		q, e := cut.Slice(4, c.p, c.set)
		if !sample.SameProgram(q, c.want) || e != api.OK {
			t.Errorf("%s: Slice(4, %v, %b) = %v, %v, want %v", c.name, c.p, c.set, q, e, c.want)
		}
		if _, tests, e := cut.Needs(4, c.p, c.set); tests != c.tests || e != api.OK {
			t.Errorf("%s: Needs(4, %v, %b) = .., %b, %v, want %b", c.name, c.p, c.set, tests, e, c.tests)
		}
		checkDefinitions(t, 4, c.p, c.set)
	}
}

// T1: which of several steps that set the same are required.
func TestNeeds(t *testing.T) {
	one := setNum(1, 1)
	for _, c := range []struct {
		name  string
		p     []api.Block
		steps [][]bool
	}{
		{"equal steps", []api.Block{stop(one, one, one)}, [][]bool{{false, false, true}}},
		{"used in between", []api.Block{stop(one, set(api.OAdd, 1, 1, 0), one, setVar(0, 1), set(api.OAdd, 1, 1, 1))},
			[][]bool{{false, false, true, false, true}}},
		{"used by a step that is not required", []api.Block{stop(one, setVar(0, 1), one)}, [][]bool{{false, false, true}}},
		{"set again on one side", []api.Block{branch(0, 1, 2, one), jump(2, one), stop()}, [][]bool{{true}, {true}, {}}},
		{"set again on both sides", []api.Block{branch(0, 1, 2, one), stop(one), stop(one)}, [][]bool{{false}, {true}, {true}}},
		{"set again in a loop", []api.Block{jump(1, one), branch(0, 1, 2, one), stop()}, [][]bool{{false}, {true}, {}}},
		{"set again behind a loop", []api.Block{jump(1, one), branch(0, 1, 2, set(api.OAdd, 1, 1, 0)), stop(one)}, [][]bool{{false}, {false}, {true}}},
	} {
		steps, _, e := cut.Needs(2, c.p, 0b10)
		if !slices.EqualFunc(steps, c.steps, slices.Equal) || e != api.OK {
			t.Errorf("%s: Needs(2, %v, 10) = %v, .., %v, want %v", c.name, c.p, steps, e, c.steps)
		}
		checkDefinitions(t, 2, c.p, 0b10)
	}
}

// P3: the program stays as it is, also beyond the length of a list, and results share no memory.
func TestMemory(t *testing.T) {
	p, changed := sample.WatchedProgram()
	long := func() []api.Block {
		return []api.Block{branch(0, 1, 2, setNum(0, 1), setNum(0, 2)), jump(2, setVar(1, 0), setNum(0, 3)), stop(setVar(2, 0), setVar(0, 1))}
	}
	more := long()
	for want := range uint32(4) {
		for range 2 {
			checkMemory(t, 2, p, want)
			checkMemory(t, 3, more, want)
		}
	}
	if changed() || !sample.SameProgram(more, long()) {
		t.Errorf("the programs changed: %v, %v", p, more)
	}
}

// checkMemory overwrites the results for a program, and checks that their lists share no memory.
func checkMemory(t *testing.T, vars int, p []api.Block, want uint32) {
	t.Helper()
	checkDefinitions(t, vars, p, want)
	q, _ := cut.Slice(vars, p, want)
	if sample.SharesCode(q) {
		t.Errorf("lists share memory: %v", q)
	}
	steps, _, _ := cut.Needs(vars, p, want)
	for _, row := range steps {
		clear(row[:cap(row)])
	}
	for _, row := range steps {
		if slices.Contains(row[:cap(row)], true) {
			t.Errorf("lists share memory: %v", steps)
		}
		for k := range row[:cap(row)] {
			row[:cap(row)][k] = true
		}
	}
	clear(steps[:cap(steps)])
}
