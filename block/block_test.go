package block_test

import (
	"math"
	"slices"
	"testing"

	"codemason/api"
	"codemason/block"
	"codemason/sample"
)

// The tests write blocks and steps with these.
var (
	stop, jump, branch  = sample.Stop, sample.Jump, sample.Branch
	setNum, setVar, set = sample.SetNum, sample.SetVar, sample.SetOp
)

// J1, J2: invalid programs, before invalid initial values.
func TestInvalidPrograms(t *testing.T) {
	for _, c := range sample.BadPrograms() {
		if e := block.Check(c.Vars, c.Program); e != c.Want {
			t.Errorf("%s: Check(%d, %v) = %v, want %v", c.Name, c.Vars, c.Program, e, c.Want)
		}
		if next, e := block.Way(c.Vars, c.Program); len(next) != 0 || e != c.Want {
			t.Errorf("%s: Way(%d, %v) = %v, %v, want %v", c.Name, c.Vars, c.Program, next, e, c.Want)
		}
		for _, have := range [][]int{make([]int, max(0, min(c.Vars, api.MaxVars+1))), nil, {-1, 300}} {
			if vals, was, e := block.Run(c.Vars, c.Program, have); len(vals) != 0 || len(was) != 0 || e != c.Want {
				t.Errorf("%s: Run(%d, %v, %v) = %v, %v, %v, want %v", c.Name, c.Vars, c.Program, have, vals, was, e, c.Want)
			}
		}
	}
}

// J2: invalid initial values, before a program that does not stop.
func TestInvalidValues(t *testing.T) {
	for _, c := range sample.BadHaves() {
		if c.Vars == 0 {
			continue
		}
		for _, p := range [][]api.Block{{stop()}, {jump(0)}} {
			if vals, was, e := block.Run(c.Vars, p, c.Have); len(vals) != 0 || len(was) != 0 || e != c.Want {
				t.Errorf("%s: Run(%d, %v, %v) = %v, %v, %v, want %v", c.Name, c.Vars, p, c.Have, vals, was, e, c.Want)
			}
		}
	}
}

// J1: programs that are valid, at the limits and with anything in the fields that are not used.
func TestValidPrograms(t *testing.T) {
	one := setNum(0, 1)
	var spread []api.Block
	for range api.MaxNodes {
		spread = append(spread, stop(one, one))
	}
	spread[3] = stop(slices.Repeat([]api.Step{one}, 6)...)
	for _, c := range []struct {
		name string
		vars int
		p    []api.Block
	}{
		{"one block", 1, []api.Block{stop()}},
		{"most variables", 6, []api.Block{branch(5, 0, 0, setVar(5, 5), set(api.OLess, 5, 5, 5))}},
		{"most blocks", 1, slices.Repeat([]api.Block{branch(0, 7, 7)}, api.MaxNodes)},
		{"most steps", 1, []api.Block{stop(slices.Repeat([]api.Step{one}, api.MaxLines)...)}},
		{"most steps of many blocks", 1, spread},
		{"smallest and greatest number", 1, []api.Block{stop(setNum(0, 0), setNum(0, 255))}},
		{"each operation", 1, []api.Block{stop(one, setVar(0, 0),
			set(api.OAdd, 0, 0, 0), set(api.OSub, 0, 0, 0), set(api.OMul, 0, 0, 0), set(api.OLess, 0, 0, 0))}},
		{"any Else without Test", 1, []api.Block{
			{Test: -1, Then: -1, Else: math.MaxInt}, {Test: -1, Then: 1, Else: -2}, {Test: -1, Then: 0, Else: 3}}},
	} {
		if e := block.Check(c.vars, c.p); e != api.OK {
			t.Errorf("%s: Check(%d, %v) = %v, want OK", c.name, c.vars, c.p, e)
		}
	}
}

// J1, J2: all programs of two blocks without steps over one variable or two, with numbers that are valid or just outside.
func TestAllEnds(t *testing.T) {
	numbers := []int{-2, -1, 0, 1, 2}
	var blocks []api.Block
	for _, test := range numbers {
		for _, then := range numbers {
			for _, other := range numbers {
				blocks = append(blocks, branch(test, then, other))
			}
		}
	}
	for _, a := range blocks {
		for _, b := range blocks {
			for vars := 1; vars <= 2; vars++ {
				p := []api.Block{a, b}
				want := endError(vars, 2, a)
				if want == api.OK {
					want = endError(vars, 2, b)
				}
				if e := block.Check(vars, p); e != want {
					t.Fatalf("Check(%d, %v) = %v, want %v", vars, p, e, want)
				}
				if want == api.OK {
					checkWay(t, vars, p)
					checkRun(t, vars, p, []int{0, 5}[:vars])
					checkRun(t, vars, p, []int{5, 0}[:vars])
				}
			}
		}
	}
}

// endError is the error of the fields Test, Then and Else of a block, by the document's definition.
func endError(vars, blocks int, b api.Block) api.Errno {
	if b.Test < -1 || b.Test >= vars {
		return api.ErrArg
	}
	thenStops := b.Then == -1 && b.Test == -1
	if !thenStops && (b.Then < 0 || b.Then >= blocks) {
		return api.ErrForm
	}
	if b.Test != -1 && (b.Else < 0 || b.Else >= blocks) {
		return api.ErrForm
	}
	return api.OK
}

// J2: graphs that are easily seen.
func TestWay(t *testing.T) {
	for _, c := range []struct {
		name string
		p    []api.Block
		want [][]int
	}{
		{"stop", []api.Block{stop()}, [][]int{nil}},
		{"jump to itself", []api.Block{jump(0)}, [][]int{{0}}},
		{"Then before Else", []api.Block{branch(0, 1, 0), branch(0, 0, 1)}, [][]int{{1, 0}, {0, 1}}},
		{"the same block twice", []api.Block{branch(0, 1, 1), branch(0, 1, 1)}, [][]int{{1}, {1}}},
		{"Else without Test", []api.Block{{Test: -1, Then: 1, Else: 0}, {Test: -1, Then: -1, Else: 0}}, [][]int{{1}, nil}},
		{"a constant Test, and blocks that are not reached", []api.Block{branch(0, 2, 3, setNum(0, 1)), jump(0), stop(), jump(2)},
			[][]int{{2, 3}, {0}, nil, {2}}},
		{"most blocks", []api.Block{branch(0, 7, 6), jump(0), jump(1), jump(2), jump(3), jump(4), jump(5), stop()},
			[][]int{{7, 6}, {0}, {1}, {2}, {3}, {4}, {5}, nil}},
	} {
		if next, e := block.Way(1, c.p); !slices.EqualFunc(next, c.want, slices.Equal) || e != api.OK {
			t.Errorf("%s: Way(%v) = %v, %v, want %v", c.name, c.p, next, e, c.want)
		}
		checkWay(t, 1, c.p)
	}
}

// J2: programs whose execution is easily seen, the document's example first.
func TestRun(t *testing.T) {
	one, down := setNum(1, 1), set(api.OSub, 0, 0, 1)
	for _, c := range []struct {
		name      string
		p         []api.Block
		have      []int
		want, was []int
		err       api.Errno
	}{
		{"example", []api.Block{jump(0)}, []int{7}, nil, nil, api.ErrLoop},
		{"stop", []api.Block{stop()}, []int{7}, []int{7}, []int{0}, api.OK},
		{"not the first block in the list of executed ones", []api.Block{jump(2), stop(setNum(0, 1)), jump(1, setNum(0, 2))},
			[]int{7}, []int{1}, []int{0, 2, 1}, api.OK},
		{"variables are the registers", []api.Block{stop(setVar(1, 0), setNum(0, 3), setVar(2, 0))},
			[]int{7, 8, 9}, []int{3, 7, 3}, []int{0}, api.OK},
		{"operands as they are at the step", []api.Block{stop(set(api.OAdd, 0, 0, 1), set(api.OMul, 1, 0, 0), set(api.OSub, 0, 0, 1))},
			[]int{20, 30}, []int{110, 196}, []int{0}, api.OK},
		{"the order of operands", []api.Block{stop(set(api.OLess, 2, 0, 1), set(api.OLess, 3, 1, 0), set(api.OSub, 4, 0, 1))},
			[]int{3, 5, 9, 9, 9, 9}, []int{3, 5, 1, 0, 254, 9}, []int{0}, api.OK},
		{"values stay from block to block", []api.Block{jump(1, setNum(0, 4)), stop(setVar(1, 0))}, []int{0, 0}, []int{4, 4}, []int{0, 1}, api.OK},
		{"Test of 1", []api.Block{branch(0, 1, 2), stop(), stop()}, []int{1}, []int{1}, []int{0, 1}, api.OK},
		{"Test of 255", []api.Block{branch(0, 1, 2), stop(), stop()}, []int{255}, []int{255}, []int{0, 1}, api.OK},
		{"Test of 0", []api.Block{branch(0, 1, 2), stop(), stop()}, []int{0}, []int{0}, []int{0, 2}, api.OK},
		{"Test of another variable", []api.Block{branch(1, 1, 2), stop(), stop()}, []int{9, 0}, []int{9, 0}, []int{0, 2}, api.OK},
		{"Test behind the steps", []api.Block{branch(0, 1, 2, setNum(0, 0)), stop(), stop()}, []int{9}, []int{0}, []int{0, 2}, api.OK},
		{"Test does not matter where both are the same", []api.Block{branch(0, 1, 1), stop()}, []int{0}, []int{0}, []int{0, 1}, api.OK},
		{"around", []api.Block{branch(0, 0, 1, one, down), stop()}, []int{3, 9}, []int{0, 1}, []int{0, 0, 0, 1}, api.OK},
		{"around the last block", []api.Block{jump(1), branch(0, 1, 2, one, down), stop()}, []int{2, 9}, []int{0, 1}, []int{0, 1, 1, 2}, api.OK},
	} {
		vals, was, e := block.Run(len(c.have), c.p, c.have)
		if !slices.Equal(vals, c.want) || !slices.Equal(was, c.was) || e != c.err {
			t.Errorf("%s: Run(%v, %v) = %v, %v, %v, want %v, %v, %v", c.name, c.p, c.have, vals, was, e, c.want, c.was, c.err)
		}
		checkRun(t, len(c.have), c.p, c.have)
	}
}

// J2: a program may stop in the last block of MaxTurns, and not later.
func TestTurns(t *testing.T) {
	p := []api.Block{branch(0, 0, 1, setNum(1, 1), set(api.OSub, 0, 0, 1)), stop()}
	for start := range api.MaxVal + 1 {
		rounds := start
		if start == 0 {
			rounds = 256 // 0 becomes 255 first.
		}
		vals, was, e := block.Run(2, p, []int{start, 0})
		if rounds+1 > api.MaxTurns {
			if len(vals) != 0 || len(was) != 0 || e != api.ErrLoop {
				t.Errorf("%d blocks: %v, %v, %v, want ErrLoop", rounds+1, vals, was, e)
			}
			continue
		}
		want := append(make([]int, rounds), 1)
		if !slices.Equal(vals, []int{0, 1}) || !slices.Equal(was, want) || e != api.OK {
			t.Errorf("%d blocks: %v, %v, %v, want [0 1], %v", rounds+1, vals, was, e, want)
		}
	}
}

// J2: the operations, with wraparound, for all pairs of values.
func TestOperations(t *testing.T) {
	p := []api.Block{stop(set(api.OAdd, 2, 0, 1), set(api.OSub, 3, 0, 1), set(api.OMul, 4, 0, 1), set(api.OLess, 5, 0, 1))}
	for a := range api.MaxVal + 1 {
		for b := range api.MaxVal + 1 {
			want := []int{a, b}
			for kind := api.OAdd; kind <= api.OLess; kind++ {
				want = append(want, sample.Apply(kind, a, b))
			}
			if vals, was, e := block.Run(6, p, []int{a, b, 9, 9, 9, 9}); e != api.OK || !slices.Equal(vals, want) || !slices.Equal(was, []int{0}) {
				t.Fatalf("operations of %d and %d: %v, %v, %v, want %v", a, b, vals, was, e, want)
			}
		}
	}
}

// J1, J2: programs of all sizes that follow a fixed rule, as they are and with one number changed.
func TestPrograms(t *testing.T) {
	pick := sample.Numbers()
	stopped := 0
	for round := range 6000 {
		vars, blocks, lines := 1+round%api.MaxVars, 1+pick(api.MaxNodes), pick(api.MaxLines+1)
		p := sample.Program(pick, vars, blocks, lines)
		checkWay(t, vars, p)
		for range 3 {
			if checkRun(t, vars, p, sample.Values(pick, vars)) {
				stopped++
			}
		}
		spoil(pick, p)
		if e, want := block.Check(vars, p), checkError(vars, p); e != want {
			t.Fatalf("Check(%d, %v) = %v, want %v", vars, p, e, want)
		}
	}
	if stopped < 5000 {
		t.Errorf("only %d runs stopped", stopped)
	}
}

// spoil changes one number or two of a program, which may become invalid.
func spoil(pick func(int) int, p []api.Block) {
	for range 1 + pick(2) {
		b := &p[pick(len(p))]
		fields := []*int{&b.Test, &b.Then, &b.Else}
		if len(b.Code) > 0 {
			s := &b.Code[pick(len(b.Code))]
			fields = append(fields, &s.Op, &s.To, &s.A, &s.B, &s.Val)
		}
		*fields[pick(len(fields))] = pick(12) - 2
	}
}

// checkError is the error of a program with allowed numbers of variables, blocks and steps, by the document's definition.
func checkError(vars int, p []api.Block) api.Errno {
	isVar := func(v int) bool { return 0 <= v && v < vars }
	for _, b := range p {
		for _, s := range b.Code {
			operation := s.Op >= api.OAdd && s.Op <= api.OLess
			if s.Op != api.ONum && s.Op != api.OVar && !operation {
				return api.ErrKind
			}
			if s.Op == api.ONum && (s.Val < 0 || s.Val > 255) || s.Op == api.OVar && !isVar(s.Val) {
				return api.ErrRange
			}
			if !isVar(s.To) || operation && !isVar(s.A) || operation && !isVar(s.B) {
				return api.ErrArg
			}
		}
		if e := endError(vars, len(p), b); e != api.OK {
			return e
		}
	}
	return api.OK
}

// checkWay compares Way with the document's definition for a valid program.
func checkWay(t *testing.T, vars int, p []api.Block) {
	t.Helper()
	if e := block.Check(vars, p); e != api.OK {
		t.Fatalf("Check(%d, %v) = %v, want OK", vars, p, e)
	}
	next, e := block.Way(vars, p)
	if e != api.OK || len(next) != len(p) {
		t.Fatalf("Way(%d, %v) = %v, %v: not a list for each block", vars, p, next, e)
	}
	for i, b := range p {
		var want []int
		if b.Test != -1 {
			want = slices.Compact([]int{b.Then, b.Else})
		} else if b.Then != -1 {
			want = []int{b.Then}
		}
		if !slices.Equal(next[i], want) {
			t.Fatalf("Way(%d, %v) = %v, want %v for block %d", vars, p, next, want, i)
		}
	}
}

// checkRun compares Run with the document's definition for valid arguments, and reports whether the program stops.
func checkRun(t *testing.T, vars int, p []api.Block, have []int) bool {
	t.Helper()
	want, wantBlocks, stops := execute(p, have)
	wantError := api.OK
	if !stops {
		want, wantBlocks, wantError = nil, nil, api.ErrLoop
	}
	vals, was, e := block.Run(vars, p, have)
	if !slices.Equal(vals, want) || !slices.Equal(was, wantBlocks) || e != wantError {
		t.Fatalf("Run(%d, %v, %v) = %v, %v, %v, want %v, %v, %v", vars, p, have, vals, was, e, want, wantBlocks, wantError)
	}
	return stops
}

// execute runs a valid program by the document's definition.
func execute(p []api.Block, have []int) (vals, was []int, stops bool) {
	x := slices.Clone(have)
	at := 0
	for len(was) < api.MaxTurns {
		was = append(was, at)
		if at = sample.RunBlock(p[at], x); at == -1 {
			return x, was, true
		}
	}
	return nil, nil, false
}

// P3: arguments stay as they are, also beyond their length, and results share no memory.
func TestMemory(t *testing.T) {
	p, changed := sample.WatchedProgram()
	values := []int{3, 9, 300}
	before := slices.Clone(values)
	for range 2 {
		checkWay(t, 2, p)
		checkRun(t, 2, p, values[:2])
		next, _ := block.Way(2, p)
		for i, list := range next {
			for k := range list[:cap(list)] {
				list[:cap(list)][k] = i
			}
		}
		if !slices.EqualFunc(next, [][]int{{0}, {1, 1}, nil}, slices.Equal) {
			t.Errorf("lists of Way share memory: %v", next)
		}
		vals, was, _ := block.Run(2, p, values[:2])
		clear(vals[:cap(vals)])
		if !slices.Equal(was, []int{0, 1, 1, 1, 2}) {
			t.Errorf("results of Run share memory: %v, %v", vals, was)
		}
		clear(was[:cap(was)])
	}
	if changed() || !slices.Equal(values, before) {
		t.Errorf("the arguments changed: %v, %v", p, values)
	}
}
