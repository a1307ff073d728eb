package live_test

import (
	"math"
	"slices"
	"testing"

	"codemason/api"
	"codemason/block"
	"codemason/live"
	"codemason/sample"
)

// The tests write blocks and steps with these.
var (
	stop, jump, branch  = sample.Stop, sample.Jump, sample.Branch
	setNum, setVar, set = sample.SetNum, sample.SetVar, sample.SetOp
)

// checkRejected checks that both functions return this error.
func checkRejected(t *testing.T, name string, vars int, p []api.Block, set uint32, want api.Errno) {
	t.Helper()
	if in, e := live.In(vars, p, set); len(in) != 0 || e != want {
		t.Errorf("%s: In(%d, %v, %b) = %b, %v, want an empty list, %v", name, vars, p, set, in, e, want)
	}
	if q, e := live.Trim(vars, p, set); len(q) != 0 || e != want {
		t.Errorf("%s: Trim(%d, %v, %b) = %v, %v, want an empty list, %v", name, vars, p, set, q, e, want)
	}
}

// K1, K2: invalid programs, before sets with other elements.
func TestInvalidPrograms(t *testing.T) {
	for _, c := range sample.BadPrograms() {
		for _, set := range []uint32{0, 1, 1 << api.MaxVars, math.MaxUint32} {
			checkRejected(t, c.Name, c.Vars, c.Program, set, c.Want)
		}
	}
}

// K1, K2: each element that is not a variable, alone and together with all variables; and the set of all variables.
func TestInvalidSets(t *testing.T) {
	for vars := 1; vars <= api.MaxVars; vars++ {
		all := uint32(1)<<vars - 1
		for _, p := range [][]api.Block{{stop()}, {jump(0)}, {stop(setNum(0, 1))}} {
			for v := vars; v < 32; v++ {
				checkRejected(t, "one element", vars, p, 1<<v, api.ErrRange)
				checkRejected(t, "all variables and one more", vars, p, all|1<<v, api.ErrRange)
			}
			checkRejected(t, "all bits", vars, p, math.MaxUint32, api.ErrRange)
			checkDefinitions(t, vars, p, all)
		}
	}
}

// K1: sets that are easily seen, the document's example first.
func TestIn(t *testing.T) {
	for _, c := range []struct {
		name string
		p    []api.Block
		set  uint32
		want []uint32
	}{
		{"example", []api.Block{stop(setNum(0, 2), setVar(0, 1))}, 0b0001, []uint32{0b0010}},
		{"no steps", []api.Block{stop()}, 0b0101, []uint32{0b0101}},
		{"nothing is needed", []api.Block{stop()}, 0, []uint32{0}},
		{"a number", []api.Block{stop(setNum(0, 1))}, 0b0011, []uint32{0b0010}},
		{"a variable", []api.Block{stop(setVar(0, 1))}, 0b0001, []uint32{0b0010}},
		{"a variable of itself", []api.Block{stop(setVar(0, 0))}, 0b0001, []uint32{0b0001}},
		{"two operands", []api.Block{stop(set(api.OSub, 0, 1, 2))}, 0b0001, []uint32{0b0110}},
		{"used by the step that sets it, as A", []api.Block{stop(set(api.OAdd, 0, 0, 1))}, 0b0001, []uint32{0b0011}},
		{"used by the step that sets it, as B", []api.Block{stop(set(api.OLess, 0, 1, 0))}, 0b0001, []uint32{0b0011}},
		{"used by a step that sets what is not live", []api.Block{stop(setVar(1, 2))}, 0b0001, []uint32{0b0101}},
		{"set after its use", []api.Block{stop(setVar(1, 0), setNum(0, 1))}, 0b0011, []uint32{0b0001}},
		{"set before its use", []api.Block{stop(setNum(0, 1), setVar(1, 0))}, 0b0011, []uint32{0}},
		{"the numbers in fields that are not used", []api.Block{{Code: []api.Step{
			{Op: api.ONum, To: 0, A: 1, B: 2, Val: 3},
			{Op: api.OVar, To: 0, A: 1, B: 2, Val: 0},
			{Op: api.OMul, To: 0, A: 0, B: 0, Val: 1},
		}, Test: -1, Then: -1, Else: 3}}, 0b0001, []uint32{0}},
		{"Test", []api.Block{branch(1, 1, 2), stop(), stop()}, 0b0001, []uint32{0b0011, 0b0001, 0b0001}},
		{"Test behind the steps", []api.Block{branch(1, 1, 1, setNum(1, 0)), stop()}, 0b0001, []uint32{0b0001, 0b0001}},
		{"Test where both ways are the same", []api.Block{branch(1, 1, 1), stop()}, 0, []uint32{0b0010, 0}},
		{"Test that does not stop", []api.Block{branch(1, 0, 0)}, 0b0001, []uint32{0b0010}},
		{"both ways", []api.Block{branch(0, 1, 2), stop(setVar(3, 1)), stop(setVar(3, 2))}, 0, []uint32{0b0111, 0b0010, 0b0100}},
		{"Else without Test", []api.Block{{Test: -1, Then: 1, Else: 2}, stop(), stop(setVar(0, 1))}, 0, []uint32{0, 0, 0b0010}},
		{"set on one of two ways", []api.Block{branch(0, 1, 2), jump(2, setNum(1, 0)), stop()}, 0b0010, []uint32{0b0011, 0, 0b0010}},
		{"the final values where nothing stops", []api.Block{branch(0, 1, 2), jump(1), stop()}, 0b0010, []uint32{0b0011, 0, 0b0010}},
		{"no block stops", []api.Block{jump(1), jump(0)}, 0b1111, []uint32{0, 0}},
		{"used where nothing stops", []api.Block{jump(1), jump(0, setVar(2, 3))}, 0b0001, []uint32{0b1000, 0b1000}},
		{"around", []api.Block{jump(1, setNum(0, 9)), branch(0, 1, 2, set(api.OSub, 0, 0, 1)), stop()}, 0b0100,
			[]uint32{0b0110, 0b0111, 0b0100}},
		{"a block that is not reached", []api.Block{jump(2), jump(2, setVar(1, 3)), stop()}, 0b0010, []uint32{0b0010, 0b1000, 0b0010}},
		{"a way that is never taken", []api.Block{branch(0, 1, 2, setNum(0, 1)), stop(), stop(setVar(0, 3))}, 0,
			[]uint32{0b1000, 0, 0b1000}},
		{"a long way, against the order of the blocks", []api.Block{jump(7), stop(setVar(0, 1)), jump(1), jump(2), jump(3), jump(4), jump(5), jump(6)},
			0b0001, slices.Repeat([]uint32{0b0010}, 8)},
		{"a long way, in the order of the blocks", []api.Block{jump(1), jump(2), jump(3), jump(4), jump(5), jump(6), jump(7), stop(setVar(0, 1))},
			0b0001, slices.Repeat([]uint32{0b0010}, 8)},
	} {
		if in, e := live.In(4, c.p, c.set); !slices.Equal(in, c.want) || e != api.OK {
			t.Errorf("%s: In(4, %v, %b) = %b, %v, want %b", c.name, c.p, c.set, in, e, c.want)
		}
		checkDefinitions(t, 4, c.p, c.set)
	}
}

// K2: programs that are easily trimmed, the document's example first.
func TestTrim(t *testing.T) {
	one, down := setNum(1, 1), set(api.OSub, 0, 0, 1)
	for _, c := range []struct {
		name    string
		set     uint32
		p, want []api.Block
	}{
		{"example", 0b0001, []api.Block{stop(setNum(0, 2), setVar(0, 1))}, []api.Block{stop(setVar(0, 1))}},
		{"no steps", 0b0001, []api.Block{stop()}, []api.Block{stop()}},
		{"nothing is needed", 0, []api.Block{stop(setNum(0, 1), setNum(1, 2))}, []api.Block{stop()}},
		{"everything is needed", 0b1111, []api.Block{stop(setNum(0, 1), setNum(1, 2))}, []api.Block{stop(setNum(0, 1), setNum(1, 2))}},
		{"the last of many", 0b0001, []api.Block{stop(slices.Repeat([]api.Step{setNum(0, 1)}, api.MaxLines)...)}, []api.Block{stop(setNum(0, 1))}},
		{"used by a removed step", 0b1000, []api.Block{stop(setNum(0, 1), setVar(1, 0), setVar(2, 1))}, []api.Block{stop()}},
		{"used by a removed step and by another one", 0b1000, []api.Block{stop(setNum(0, 1), setVar(1, 0), setVar(3, 0))},
			[]api.Block{stop(setNum(0, 1), setVar(3, 0))}},
		{"a variable of itself", 0b0001, []api.Block{stop(setVar(0, 0))}, []api.Block{stop(setVar(0, 0))}},
		{"set again by itself", 0b0001, []api.Block{stop(setNum(0, 2), set(api.OAdd, 0, 0, 0))}, []api.Block{stop(setNum(0, 2), set(api.OAdd, 0, 0, 0))}},
		{"set again by itself, not needed", 0, []api.Block{stop(setNum(0, 2), set(api.OAdd, 0, 0, 0))}, []api.Block{stop()}},
		{"Test", 0, []api.Block{branch(0, 1, 1, setNum(0, 2), one), stop(one)}, []api.Block{branch(0, 1, 1, setNum(0, 2)), stop()}},
		{"needed on one of two ways", 0b0010, []api.Block{branch(0, 1, 2, setNum(1, 5)), stop(one), stop()},
			[]api.Block{branch(0, 1, 2, setNum(1, 5)), stop(one), stop()}},
		{"needed on none of two ways", 0b0010, []api.Block{branch(0, 1, 2, setNum(1, 5)), stop(one), stop(one)},
			[]api.Block{branch(0, 1, 2), stop(one), stop(one)}},
		{"needed in a loop", 0, []api.Block{jump(1, one), branch(0, 1, 2, down), stop(one)},
			[]api.Block{jump(1, one), branch(0, 1, 2, down), stop()}},
		{"needed in a loop only for itself", 0, []api.Block{jump(1, one), branch(3, 1, 2, down), stop()},
			[]api.Block{jump(1, one), branch(3, 1, 2, down), stop()}},
		{"not needed in a loop", 0b0010, []api.Block{branch(0, 0, 1, setVar(2, 1)), stop()}, []api.Block{branch(0, 0, 1), stop()}},
		{"a chain around a loop", 0, []api.Block{branch(0, 0, 1, setVar(3, 2), setVar(2, 1), setNum(1, 7)), stop()},
			[]api.Block{branch(0, 0, 1), stop()}},
		{"a chain against the order of the blocks", 0, []api.Block{jump(3, setNum(0, 1)), stop(setVar(3, 2)), jump(1, setVar(2, 1)), jump(2, setVar(1, 0))},
			[]api.Block{jump(3), stop(), jump(1), jump(2)}},
		{"a program that does not stop", 0b1111, []api.Block{jump(1, one), jump(0, setVar(2, 0))}, []api.Block{jump(1), jump(0)}},
		{"a block that is not reached", 0b0010, []api.Block{stop(one), stop(one, setNum(0, 1))}, []api.Block{stop(one), stop(one)}},
		{"only a block that is not reached needs it", 0, []api.Block{stop(one), branch(1, 1, 0, one)}, []api.Block{stop(), branch(1, 1, 0, one)}},
		{"fields that are not used stay as they are", 0b0001, []api.Block{{Code: []api.Step{{Op: api.ONum, To: 0, A: 7, B: 8, Val: 9}, one}, Test: -1, Then: -1, Else: 5}},
			[]api.Block{{Code: []api.Step{{Op: api.ONum, To: 0, A: 7, B: 8, Val: 9}}, Test: -1, Then: -1, Else: 5}}},
	} {
		if q, e := live.Trim(4, c.p, c.set); !sample.SameProgram(q, c.want) || e != api.OK {
			t.Errorf("%s: Trim(4, %v, %b) = %v, %v, want %v", c.name, c.p, c.set, q, e, c.want)
		}
		checkDefinitions(t, 4, c.p, c.set)
	}
}

// K1, K2: all programs of two blocks over two variables, with at most one step in each of them.
func TestShortPrograms(t *testing.T) {
	for p := range sample.ShortPrograms(shortCode()) {
		for set := range uint32(4) {
			checkDefinitions(t, 2, p, set)
		}
	}
}

// shortCode lists no step and each kind of single step over two variables.
func shortCode() [][]api.Step {
	code := [][]api.Step{nil}
	for to := range 2 {
		code = append(code, []api.Step{setNum(to, 1)})
		for a := range 2 {
			code = append(code, []api.Step{setVar(to, a)})
			for b := range 2 {
				code = append(code, []api.Step{set(api.OAdd, to, a, b)})
			}
		}
	}
	return code
}

// K1, K2: programs of all sizes that follow a fixed rule.
func TestPrograms(t *testing.T) {
	pick := sample.Numbers()
	removed, kept, stopped := 0, 0, 0
	for round := range 6000 {
		vars, blocks, lines := 1+round%api.MaxVars, 1+pick(api.MaxNodes), pick(api.MaxLines+1)
		p := sample.Program(pick, vars, blocks, lines)
		sample.FillUnused(pick, vars, p)
		set := uint32(pick(1 << vars))
		q := checkDefinitions(t, vars, p, set)
		removed += lines - sample.CountSteps(q)
		kept += sample.CountSteps(q)
		for range 3 {
			if checkRuns(t, vars, p, q, set, sample.Values(pick, vars)) {
				stopped++
			}
		}
	}
	if removed < 10000 || kept < 10000 || stopped < 5000 {
		t.Errorf("only %d steps were removed, %d kept; only %d runs stopped", removed, kept, stopped)
	}
}

// checkRuns checks that a trimmed program executes the same blocks and leaves the same values in the needed variables, and reports whether it stops.
func checkRuns(t *testing.T, vars int, p, q []api.Block, set uint32, have []int) bool {
	t.Helper()
	wantVals, wantBlocks, wantError := block.Run(vars, p, have)
	vals, was, e := block.Run(vars, q, have)
	if e != wantError || !slices.Equal(was, wantBlocks) {
		t.Fatalf("%v trimmed for %b to %v executes %v, %v from %v, want %v, %v", p, set, q, was, e, have, wantBlocks, wantError)
	}
	for v := range vals {
		if set>>v&1 != 0 && vals[v] != wantVals[v] {
			t.Fatalf("%v trimmed for %b to %v yields %v from %v, want %v", p, set, q, vals, have, wantVals)
		}
	}
	return e == api.OK
}

// checkDefinitions compares both functions with the document's definitions for valid arguments, and returns the trimmed program.
func checkDefinitions(t *testing.T, vars int, p []api.Block, set uint32) []api.Block {
	t.Helper()
	want := make([]uint32, len(p))
	for i := range p {
		for v := range vars {
			if isLive(p, set, v, sample.Place{Block: i}) {
				want[i] |= 1 << v
			}
		}
	}
	if in, e := live.In(vars, p, set); !slices.Equal(in, want) || e != api.OK {
		t.Fatalf("In(%d, %v, %b) = %b, %v, want %b", vars, p, set, in, e, want)
	}
	q, e := live.Trim(vars, p, set)
	if wantProgram := trimmed(p, set); !sample.SameProgram(q, wantProgram) || e != api.OK {
		t.Fatalf("Trim(%d, %v, %b) = %v, %v, want %v", vars, p, set, q, e, wantProgram)
	}
	return q
}

// isLive reports whether variable v is live at a place of a program, by the document's definition.
func isLive(p []api.Block, set uint32, v int, from sample.Place) bool {
	used := func(at sample.Place) bool {
		b := p[at.Block]
		if at.Step < len(b.Code) {
			return sample.Uses(b.Code[at.Step], v)
		}
		return b.Test == v || sample.Stops(b) && set>>v&1 != 0
	}
	isSet := func(at sample.Place) bool {
		code := p[at.Block].Code
		return at.Step < len(code) && code[at.Step].To == v
	}
	return sample.Leads(p, from, used, isSet)
}

// trimmed is the program without the steps that the document tells to remove, one after another.
func trimmed(p []api.Block, set uint32) []api.Block {
	q := slices.Clone(p)
	for {
		i, k := deadStep(q, set)
		if i == -1 {
			return q
		}
		q[i].Code = slices.Concat(q[i].Code[:k], q[i].Code[k+1:])
	}
}

// deadStep finds a step whose To is not live directly after it: its block and place, or -1.
func deadStep(p []api.Block, set uint32) (i, k int) {
	for i, b := range p {
		for k, s := range b.Code {
			if !isLive(p, set, s.To, sample.Place{Block: i, Step: k + 1}) {
				return i, k
			}
		}
	}
	return -1, -1
}

// P1: one step, and all numbers: what is not a variable is ignored.
func TestBeforeStep(t *testing.T) {
	for _, c := range []struct {
		step       api.Step
		live, want uint32
	}{
		{setNum(0, 1), 0b0101, 0b0100},
		{setNum(1, 2), 0b0101, 0b0101},
		{setVar(0, 3), 0b0101, 0b1100},
		{setVar(1, 1), 0b0010, 0b0010},
		{set(api.OSub, 0, 1, 2), 0b0001, 0b0110},
		{set(api.OAdd, 2, 2, 31), 0b0101, 1<<31 | 0b0101},
	} {
		if in := live.BeforeStep(c.step, c.live); in != c.want {
			t.Errorf("BeforeStep(%v, %b) = %b, want %b", c.step, c.live, in, c.want)
		}
	}
	for _, v := range sample.Outside(32) {
		for _, step := range []api.Step{setNum(v, 1), setVar(v, v), set(api.OMul, v, v, v), {Op: v, To: v, A: v, B: v, Val: v}} {
			if in := live.BeforeStep(step, math.MaxUint32); in != math.MaxUint32 {
				t.Errorf("BeforeStep(%v, all) = %b, want all", step, in)
			}
		}
	}
}

// P3: the program stays as it is, also beyond the length of a list, and results share no memory.
func TestMemory(t *testing.T) {
	p, changed := sample.WatchedProgram()
	long := func() []api.Block {
		return []api.Block{jump(1, setNum(0, 1), setNum(0, 2)), jump(2, setVar(1, 0), setNum(0, 3)), stop(setVar(2, 0), setVar(0, 1))}
	}
	more := long()
	for set := range uint32(4) {
		for range 2 {
			checkDefinitions(t, 2, p, set)
			in, _ := live.In(2, p, set)
			clear(in[:cap(in)])
			q, _ := live.Trim(2, p, set)
			if sample.SharesCode(q) {
				t.Errorf("lists share memory: %v", q)
			}
			q, _ = live.Trim(3, more, set)
			if sample.SharesCode(q) {
				t.Errorf("lists share memory: %v", q)
			}
		}
	}
	if changed() || !sample.SameProgram(more, long()) {
		t.Errorf("the programs changed: %v, %v", p, more)
	}
}
