package single_test

import (
	"math"
	"slices"
	"testing"

	"codemason/api"
	"codemason/sample"
	"codemason/single"
)

// The tests write blocks and steps with these.
var (
	stop, jump, branch  = sample.Stop, sample.Jump, sample.Branch
	setNum, setVar, set = sample.SetNum, sample.SetVar, sample.SetOp
)

// named is a block of a named program.
func named(b api.Block, last []int, joins ...api.Join) api.Single {
	return api.Single{Joins: joins, Code: b.Code, Test: b.Test, Then: b.Then, Else: b.Else, Last: last}
}

// join is a join that sets the name to.
func join(to int, from ...int) api.Join { return api.Join{To: to, From: from} }

// badNamed is a named program that is invalid.
type badNamed struct {
	name string
	vars int
	l    []api.Single
	want api.Errno
}

// badPrograms lists invalid named programs, which all functions of these reject.
func badPrograms() []badNamed {
	return slices.Concat(largePrograms(), badEnds(), badBlocks(), mixedPrograms())
}

// largePrograms lists named programs with too much or too little of something, which counts before all that is wrong in a block.
func largePrograms() []badNamed {
	one, only := setNum(1, 1), named(stop(), []int{0})
	steps := slices.Repeat([]api.Step{one}, api.MaxLines)
	joins := slices.Repeat([]api.Join{join(1, 0)}, api.MaxJoins)
	joinsOfNone := slices.Repeat([]api.Join{join(1)}, api.MaxJoins)
	wrong := api.Single{Joins: []api.Join{join(-1)}, Code: []api.Step{{Op: 99}}, Test: -2, Then: -2}
	bad := []badNamed{
		{"nil", 1, nil, api.ErrLarge},
		{"empty", 1, []api.Single{}, api.ErrLarge},
		{"too many blocks", 1, slices.Repeat([]api.Single{only}, api.MaxNodes+1), api.ErrLarge},
		{"too many blocks before form", 1, slices.Repeat([]api.Single{wrong}, api.MaxNodes+1), api.ErrLarge},
		{"too many steps", 1, []api.Single{named(stop(append(steps, one)...), []int{0})}, api.ErrLarge},
		{"too many steps of two blocks", 1, []api.Single{named(stop(steps...), []int{0}), named(stop(one), []int{0})}, api.ErrLarge},
		{"too many steps before form", 1, []api.Single{wrong, named(stop(steps...), nil)}, api.ErrLarge},
		{"too many joins", 1, []api.Single{named(stop(), []int{0}, append(joins, join(1, 0))...)}, api.ErrLarge},
		{"too many joins of two blocks", 1, []api.Single{named(stop(), []int{0}, joins...), named(stop(), []int{0}, join(1))}, api.ErrLarge},
		{"too many joins of the last block", 1, []api.Single{named(stop(), []int{0}, join(1, 0)), named(stop(), []int{0}, joinsOfNone...)}, api.ErrLarge},
		{"too many joins before form", 1, []api.Single{wrong, named(stop(), nil, joins...)}, api.ErrLarge},
	}
	for _, vars := range []int{math.MinInt, -1, 0, api.MaxVars + 1, api.MaxVars + 2, math.MaxInt} {
		last := make([]int, max(0, min(vars, api.MaxVars+1)))
		bad = append(bad,
			badNamed{"vars", vars, []api.Single{named(stop(), last)}, api.ErrLarge},
			badNamed{"vars before form", vars, []api.Single{wrong}, api.ErrLarge})
	}
	return bad
}

// badEnds lists named programs one of whose blocks has a wrong Test, Then, Else or Last.
func badEnds() []badNamed {
	var bad []badNamed
	for blocks := 1; blocks <= api.MaxNodes; blocks++ {
		for i := range blocks {
			with := func(name string, b api.Block, last ...int) {
				l := slices.Repeat([]api.Single{named(stop(), []int{0, 1})}, blocks)
				l[i] = named(b, last)
				bad = append(bad, badNamed{name, 2, l, api.ErrForm})
			}
			for _, test := range []int{math.MinInt, -3, -2} {
				with("Test", branch(test, 0, 0), 0, 1)
				with("Test where Then is -1", branch(test, -1, 0), 0, 1)
			}
			for _, to := range sample.Outside(blocks) {
				with("Then", branch(1, to, 0), 0, 1)
				with("Else", branch(1, 0, to), 0, 1)
				with("Then and Else", branch(1, to, to), 0, 1)
			}
			for _, to := range []int{math.MinInt, -2, blocks, blocks + 1, math.MaxInt} {
				with("Then without Test", jump(to), 0, 1)
			}
			with("no Last", stop())
			with("Last too short", stop(), 0)
			with("Last too long", stop(), 0, 1, 0)
		}
	}
	return bad
}

// badBlocks lists named programs one of whose blocks has a wrong join, step or name.
func badBlocks() []badNamed {
	var bad []badNamed
	// Blocks 0 and 1 have two sources, block 2 has one, and block 3 has none.
	sources := []int{2, 2, 1, 0}
	good := []api.Block{jump(1), branch(0, 1, 2), jump(0), stop()}
	for i, count := range sources {
		with := func(name string, want api.Errno, b api.Block, last []int, joins ...api.Join) {
			var l []api.Single
			for k := range good {
				l = append(l, named(good[k], []int{0, 1}, join(5, make([]int, sources[k])...)))
			}
			l[i] = named(b, last, joins...)
			bad = append(bad, badNamed{name, 2, l, want})
		}
		withJoin := func(name string, want api.Errno, j api.Join) {
			fine := join(5, make([]int, count)...)
			with(name, want, good[i], []int{0, 1}, fine, j, fine)
		}
		for n := range 5 {
			if n != count {
				withJoin("From", api.ErrForm, join(5, make([]int, n)...))
				withJoin("form before arg", api.ErrForm, join(-1, slices.Repeat([]int{-1}, n)...))
			}
		}
		for _, n := range sample.Outside(api.MaxNames) {
			withJoin("To", api.ErrArg, join(n, make([]int, count)...))
			for k := range count {
				from := make([]int, count)
				from[k] = n
				withJoin("element of From", api.ErrArg, join(5, from...))
			}
			with("Last", api.ErrArg, good[i], []int{n, 1})
			with("end of Last", api.ErrArg, good[i], []int{0, n})
		}
		for _, n := range []int{api.MaxNames, api.MaxNames + 1, math.MaxInt} {
			b := good[i]
			if b.Test != -1 {
				b.Test = n
				with("Test", api.ErrArg, b, []int{0, 1})
			}
		}
		for _, s := range sample.BadSteps(api.MaxNames) {
			b := good[i]
			b.Code = []api.Step{setNum(5, 1), s.Step, setNum(5, 1)}
			want := s.Want
			if s.Step.Op == api.OVar {
				want = api.ErrArg // Where programs have variables, named programs have names.
			}
			with(s.Name, want, b, []int{0, 1})
		}
	}
	return bad
}

// mixedPrograms lists named programs with several errors, which show their order.
func mixedPrograms() []badNamed {
	form, arg, from := join(5), join(-1, 0), join(5, api.MaxNames)
	kind, value, to, copied := api.Step{Op: 99}, setNum(5, 256), setNum(-1, 1), setVar(5, api.MaxNames)
	zero, wrong := []int{0}, []int{-1}
	return []badNamed{
		{"form of the last block before its own", 1, []api.Single{named(stop(kind), wrong, arg), named(stop(), nil)}, api.ErrForm},
		{"Test of the last block before kind", 1, []api.Single{named(stop(kind), wrong), named(branch(-2, 0, 0), zero)}, api.ErrForm},
		{"Then of the last block before range", 1, []api.Single{named(stop(value), wrong), named(jump(2), zero)}, api.ErrForm},
		{"Else of the last block before arg", 1, []api.Single{named(stop(), wrong), named(branch(0, 0, -1), zero)}, api.ErrForm},
		{"Last before a Test that is not a name", 1, []api.Single{named(branch(api.MaxNames, 0, 0), nil)}, api.ErrForm},
		{"first join is form", 1, []api.Single{named(stop(), zero, join(5, 0), form, arg)}, api.ErrForm},
		{"first join is To", 1, []api.Single{named(stop(), zero, join(5, 0), arg, form)}, api.ErrArg},
		{"first join is From", 1, []api.Single{named(stop(), zero, from, form)}, api.ErrArg},
		{"form of a join before steps", 1, []api.Single{named(stop(kind, value, to), wrong, join(5, 0), form)}, api.ErrForm},
		{"arg of a join before steps", 1, []api.Single{named(stop(kind, value), wrong, arg)}, api.ErrArg},
		{"first step is kind", 1, []api.Single{named(stop(setNum(1, 0), kind, value, to), wrong)}, api.ErrKind},
		{"first step is range", 1, []api.Single{named(stop(value, to, kind), wrong)}, api.ErrRange},
		{"first step is To", 1, []api.Single{named(stop(to, kind, value), wrong)}, api.ErrArg},
		{"first step is the name that it copies", 1, []api.Single{named(stop(copied, kind, value), wrong)}, api.ErrArg},
		{"a step before Test", 1, []api.Single{named(branch(api.MaxNames, 0, 0, value), zero)}, api.ErrRange},
		{"a step before Last", 1, []api.Single{named(stop(kind), wrong)}, api.ErrKind},
		{"first block is the form of a join", 1, []api.Single{named(stop(), zero, form), named(stop(kind), zero), named(stop(value), wrong)}, api.ErrForm},
		{"first block is arg of a join", 1, []api.Single{named(stop(), zero, arg), named(stop(kind), zero), named(stop(), zero, arg)}, api.ErrArg},
		{"first block is kind", 1, []api.Single{named(stop(), zero), named(stop(kind), zero), named(stop(value), zero, arg), named(stop(), wrong)}, api.ErrKind},
		{"first block is range", 1, []api.Single{named(stop(value), zero), named(stop(), zero, arg), named(stop(kind), wrong)}, api.ErrRange},
		{"first block is Last", 1, []api.Single{named(stop(), wrong), named(stop(), zero, arg), named(stop(kind), zero)}, api.ErrArg},
		{"first block is Test", 1, []api.Single{named(branch(api.MaxNames, 0, 0), zero), named(stop(kind), zero)}, api.ErrArg},
		{"a block that is not reached", 1, []api.Single{named(stop(), zero), named(stop(kind), zero)}, api.ErrKind},
	}
}

// M1, M2, M3: invalid named programs, before invalid initial values.
func TestInvalidPrograms(t *testing.T) {
	for _, c := range badPrograms() {
		if e := single.Check(c.vars, c.l); e != c.want {
			t.Errorf("%s: Check(%d, %v) = %v, want %v", c.name, c.vars, c.l, e, c.want)
		}
		if is, e := single.Once(c.vars, c.l); is || e != c.want {
			t.Errorf("%s: Once(%d, %v) = %v, %v, want false, %v", c.name, c.vars, c.l, is, e, c.want)
		}
		for _, have := range [][]int{make([]int, max(0, min(c.vars, api.MaxVars+1))), nil, {-1, 300}} {
			if vals, e := single.Run(c.vars, c.l, have); len(vals) != 0 || e != c.want {
				t.Errorf("%s: Run(%d, %v, %v) = %v, %v, want an empty list, %v", c.name, c.vars, c.l, have, vals, e, c.want)
			}
		}
	}
}

// M1: invalid initial values, before a program that does not stop.
func TestInvalidValues(t *testing.T) {
	for _, c := range sample.BadHaves() {
		if c.Vars == 0 {
			continue
		}
		for _, b := range []api.Block{stop(), jump(0)} {
			l := []api.Single{named(b, make([]int, c.Vars))}
			if vals, e := single.Run(c.Vars, l, c.Have); len(vals) != 0 || e != c.Want {
				t.Errorf("%s: Run(%d, %v, %v) = %v, %v, want %v", c.Name, c.Vars, l, c.Have, vals, e, c.Want)
			}
		}
	}
}

// M2: named programs that are valid, at the limits and with anything in the fields that are not used.
func TestValidPrograms(t *testing.T) {
	one, zero := setNum(1, 1), []int{0}
	var spread, crowded []api.Single
	for i := range api.MaxNodes {
		spread = append(spread, named(jump((i+1)%8, one, one), zero, slices.Repeat([]api.Join{join(1, 0)}, 8)...))
		crowded = append(crowded, named(branch(127, 7, 7), []int{127}))
	}
	spread[0].Joins = slices.Repeat([]api.Join{join(1, 0, 0)}, 8)
	spread[3].Code = slices.Repeat([]api.Step{one}, 6)
	crowded[7].Joins = []api.Join{join(127, 0, 1, 2, 3, 4, 5, 6, 127)}
	for _, c := range []struct {
		name string
		vars int
		l    []api.Single
	}{
		{"one block", 1, []api.Single{named(stop(), zero)}},
		{"most variables", 6, []api.Single{named(stop(), []int{5, 4, 3, 2, 1, 127})}},
		{"most names", 1, []api.Single{named(branch(127, 0, 0, setVar(127, 127), set(api.OLess, 127, 127, 127)), []int{127}, join(127, 127, 127))}},
		{"most blocks and sources", 1, crowded},
		{"most steps", 1, []api.Single{named(stop(slices.Repeat([]api.Step{one}, api.MaxLines)...), zero)}},
		{"most joins", 1, []api.Single{named(stop(), zero, slices.Repeat([]api.Join{join(1, 0)}, api.MaxJoins)...)}},
		{"most steps and joins of many blocks", 1, spread},
		{"smallest and greatest number", 1, []api.Single{named(stop(setNum(0, 0), setNum(0, 255)), zero)}},
		{"each operation", 1, []api.Single{named(stop(one, setVar(9, 8),
			set(api.OAdd, 7, 6, 5), set(api.OSub, 4, 3, 2), set(api.OMul, 1, 9, 0), set(api.OLess, 0, 0, 0)), zero)}},
		{"joins without sources", 1, []api.Single{named(stop(), zero), named(stop(), zero, join(1), join(2))}},
		{"the same source by Then and Else", 1, []api.Single{named(branch(0, 1, 1), zero), named(stop(), zero, join(1, 0))}},
		{"any Else without Test", 1, []api.Single{
			{Test: -1, Then: 1, Else: math.MaxInt, Last: zero}, {Test: -1, Then: -1, Else: -2, Last: zero, Joins: []api.Join{join(1, 0)}}}},
	} {
		if e := single.Check(c.vars, c.l); e != api.OK {
			t.Errorf("%s: Check(%d, %v) = %v, want OK", c.name, c.vars, c.l, e)
		}
	}
}

// M1: named programs whose execution is easily seen.
func TestRun(t *testing.T) {
	for _, c := range []struct {
		name       string
		l          []api.Single
		have, want []int
		err        api.Errno
	}{
		{"the first names", []api.Single{named(stop(), []int{0, 1})}, []int{7, 8}, []int{7, 8}, api.OK},
		{"Last in another order", []api.Single{named(stop(), []int{1, 0})}, []int{7, 8}, []int{8, 7}, api.OK},
		{"Last twice the same", []api.Single{named(stop(), []int{1, 1})}, []int{7, 8}, []int{8, 8}, api.OK},
		{"all other names are 0", []api.Single{named(stop(), []int{2, 127})}, []int{7, 8}, []int{0, 0}, api.OK},
		{"steps", []api.Single{named(stop(setNum(2, 3), setVar(3, 1), set(api.OSub, 127, 3, 2)), []int{127, 3})}, []int{7, 8}, []int{5, 8}, api.OK},
		{"a name twice", []api.Single{named(stop(setNum(0, 3), set(api.OMul, 0, 0, 0)), []int{0, 1})}, []int{7, 8}, []int{9, 8}, api.OK},
		{"Last of the block in which it stops", []api.Single{named(jump(1, setNum(2, 5)), []int{0, 0}), named(stop(), []int{2, 1})}, []int{7, 8}, []int{5, 8}, api.OK},
		{"a join from the start", []api.Single{named(stop(), []int{5, 1}, join(5, 1))}, []int{7, 8}, []int{8, 8}, api.OK},
		{"joins all at the same time", []api.Single{named(stop(), []int{0, 1}, join(0, 1), join(1, 0))}, []int{7, 8}, []int{8, 7}, api.OK},
		{"a chain of joins", []api.Single{named(stop(), []int{3, 4}, join(2, 0), join(3, 2), join(4, 3))}, []int{7, 8}, []int{0, 0}, api.OK},
		{"two joins of the same name", []api.Single{named(stop(), []int{2, 1}, join(2, 0), join(2, 1))}, []int{7, 8}, []int{8, 8}, api.OK},
		{"two joins of the same name, the other way", []api.Single{named(stop(), []int{2, 1}, join(2, 1), join(2, 0))}, []int{7, 8}, []int{7, 8}, api.OK},
		{"joins before steps", []api.Single{named(stop(setVar(2, 3), setNum(3, 4)), []int{2, 3}, join(3, 1))}, []int{7, 8}, []int{8, 4}, api.OK},
		{"the first source is the start", []api.Single{named(branch(2, 0, 1, set(api.OSub, 2, 2, 3)), []int{0, 0}, join(2, 0, 2), join(3, 1, 3)), named(stop(), []int{2, 3})},
			[]int{9, 3}, []int{0, 3}, api.OK},
		{"sources in increasing order, Then", []api.Single{named(branch(0, 2, 1), []int{0, 0}), named(jump(3), []int{0, 0}), named(jump(3), []int{0, 0}), named(stop(), []int{2, 1}, join(2, 0, 1))},
			[]int{7, 8}, []int{8, 8}, api.OK},
		{"sources in increasing order, Else", []api.Single{named(branch(0, 2, 1), []int{0, 0}), named(jump(3), []int{0, 0}), named(jump(3), []int{0, 0}), named(stop(), []int{2, 1}, join(2, 1, 0))},
			[]int{0, 8}, []int{8, 8}, api.OK},
		{"a source once", []api.Single{named(branch(0, 2, 2), []int{0, 0}), named(jump(2), []int{0, 0}), named(stop(), []int{2, 1}, join(2, 0, 1))}, []int{7, 8}, []int{7, 8}, api.OK},
		{"a source that is not reached", []api.Single{named(jump(2), []int{0, 0}), named(jump(0), []int{0, 0}), named(stop(), []int{2, 3}, join(3, 1))}, []int{7, 8}, []int{0, 8}, api.OK},
		{"a source that is not reached comes before", []api.Single{named(jump(3), []int{0, 0}), named(jump(2), []int{0, 0}), named(stop(), []int{2, 1}, join(2, 0, 1)), named(jump(2), []int{0, 0})},
			[]int{7, 8}, []int{8, 8}, api.OK},
		{"a block is its own source", []api.Single{named(jump(1), []int{0, 0}), named(branch(3, 1, 2, setVar(3, 2), setNum(4, 0)), []int{0, 0}, join(2, 0, 4)), named(stop(), []int{3, 1})},
			[]int{7, 8}, []int{0, 8}, api.OK},
		{"Test behind the steps", []api.Single{named(branch(2, 1, 0, setNum(2, 1)), []int{0, 0}), named(stop(), []int{2, 1})}, []int{7, 8}, []int{1, 8}, api.OK},
		{"Test of another name than any variable's", []api.Single{named(branch(99, 0, 1), []int{0, 0}), named(stop(), []int{0, 1})}, []int{7, 8}, []int{7, 8}, api.OK},
		{"it does not stop", []api.Single{named(jump(0), []int{0, 1})}, []int{7, 8}, nil, api.ErrLoop},
	} {
		if vals, e := single.Run(2, c.l, c.have); !slices.Equal(vals, c.want) || e != c.err {
			t.Errorf("%s: Run(2, %v, %v) = %v, %v, want %v, %v", c.name, c.l, c.have, vals, e, c.want, c.err)
		}
		checkDefinitions(t, 2, c.l, c.have)
	}
}

// M1: a program may stop in the last block of MaxTurns, and not later.
func TestTurns(t *testing.T) {
	down := named(branch(3, 0, 1, setNum(1, 1), set(api.OSub, 3, 2, 1)), []int{3}, join(2, 0, 3))
	l := []api.Single{down, named(stop(), []int{2})}
	for start := 1; start <= api.MaxVal; start++ {
		var want []int
		wantError := api.ErrLoop
		if start+1 <= api.MaxTurns {
			want, wantError = []int{1}, api.OK
		}
		if vals, e := single.Run(1, l, []int{start}); !slices.Equal(vals, want) || e != wantError {
			t.Errorf("%d blocks: %v, %v, want %v, %v", start+1, vals, e, want, wantError)
		}
	}
}

// M3: named programs that are easily told to be in the form or not.
func TestOnce(t *testing.T) {
	zero := []int{0, 1}
	one := setNum(2, 1)
	for _, c := range []struct {
		name string
		want bool
		l    []api.Single
	}{
		{"no steps", true, []api.Single{named(stop(), zero)}},
		{"each name once", true, []api.Single{named(stop(one, setVar(3, 2), set(api.OAdd, 4, 3, 0)), []int{4, 2})}},
		{"set by two steps", false, []api.Single{named(stop(one, one), zero)}},
		{"set by steps of two blocks", false, []api.Single{named(jump(1, one), zero), named(stop(one), zero)}},
		{"set by steps on two ways", false, []api.Single{named(branch(0, 1, 2), zero), named(stop(one), zero), named(stop(one), zero)}},
		{"set by two joins", false, []api.Single{named(stop(), zero, join(2, 0), join(2, 0))}},
		{"set by a join and a step", false, []api.Single{named(stop(one), zero, join(2, 0))}},
		{"set in two blocks, one not reached", false, []api.Single{named(stop(one), zero), named(stop(one), zero)}},
		{"set in two blocks that are not reached", false, []api.Single{named(stop(), zero), named(stop(one), zero), named(stop(), zero, join(2))}},
		{"a first name is set by a step", false, []api.Single{named(stop(setNum(0, 1)), zero)}},
		{"the last first name is set by a step", false, []api.Single{named(stop(setNum(1, 1)), zero)}},
		{"a first name is set by a join", false, []api.Single{named(stop(), zero, join(1, 1))}},
		{"a first name is set in a block that is not reached", false, []api.Single{named(stop(), zero), named(stop(setNum(0, 1)), zero)}},
		{"a name that is never set, copied", false, []api.Single{named(stop(setVar(2, 3)), zero)}},
		{"a name that is never set, as A", false, []api.Single{named(stop(set(api.OSub, 2, 3, 0)), zero)}},
		{"a name that is never set, as B", false, []api.Single{named(stop(set(api.OSub, 2, 0, 3)), zero)}},
		{"a name that is never set, as Test", false, []api.Single{named(branch(3, 1, 1), zero), named(stop(), zero)}},
		{"a name that is never set, in Last", false, []api.Single{named(stop(), []int{0, 3})}},
		{"a name that is never set, in Last of a block that does not stop", false, []api.Single{named(jump(1), []int{2, 1}), named(stop(), zero)}},
		{"a name that is never set, from the start", false, []api.Single{named(stop(), zero, join(2, 3))}},
		{"a name that is never set, from a block", false, []api.Single{named(jump(1), zero), named(stop(), zero, join(2, 3))}},
		{"numbers in fields that are not used", true, []api.Single{{Code: []api.Step{{Op: api.ONum, To: 2, A: 9, B: 9, Val: 9}, {Op: api.OVar, To: 3, A: 9, B: 9},
			{Op: api.OAdd, To: 4, Val: 9}}, Test: -1, Then: -1, Else: 9, Last: zero}}},
		{"used by the step that sets it", false, []api.Single{named(stop(setVar(2, 2)), zero)}},
		{"used by the step before", false, []api.Single{named(stop(setVar(3, 2), one), zero)}},
		{"used by the step before, in a loop", false, []api.Single{named(jump(1), zero), named(branch(0, 1, 2, setVar(3, 2), one), zero), named(stop(), zero)}},
		{"used before the last of many steps", false, []api.Single{named(stop(manySteps(21)...), zero)}},
		{"used behind the last of many steps", true, []api.Single{named(jump(1, manySteps(0)...), []int{21, 20}), named(stop(), zero, join(50, 21))}},
		{"used by the step behind a join", true, []api.Single{named(stop(setVar(3, 2)), zero, join(2, 0))}},
		{"Test and Last behind the steps", true, []api.Single{named(branch(2, 1, 1, one), []int{2, 2}), named(stop(), []int{2, 2})}},
		{"Test and Last behind the joins", true, []api.Single{named(branch(2, 1, 1), []int{2, 2}, join(2, 0)), named(stop(), zero)}},
		{"joins of one block use each other's names", false, []api.Single{named(stop(), zero, join(2, 0), join(3, 2))}},
		{"a join from the start uses what its block sets", false, []api.Single{named(stop(one), zero, join(3, 2))}},
		{"a join from the start of a loop uses what its block sets", false, []api.Single{named(jump(0, one), zero, join(3, 2, 2))}},
		{"a join from its own block uses what that sets", true, []api.Single{named(jump(0, one), zero, join(3, 0, 2))}},
		{"a join from its own block uses itself and another one", true, []api.Single{named(jump(0), zero, join(3, 0, 3), join(4, 1, 3))}},
		{"a join uses what one source sets", true, []api.Single{named(branch(0, 1, 2), zero), named(jump(3, one), zero), named(jump(3), zero), named(stop(), zero, join(3, 2, 0))}},
		{"a join uses what the other source sets", false, []api.Single{named(branch(0, 1, 2), zero), named(jump(3, one), zero), named(jump(3), zero), named(stop(), zero, join(3, 0, 2))}},
		{"a join uses what its own block sets, from another one", false, []api.Single{named(jump(1), zero), named(stop(one), zero, join(3, 2))}},
		{"a join uses what dominates a source", true, []api.Single{named(jump(1, one), zero), named(jump(2), zero), named(stop(), zero, join(3, 2))}},
		{"set in a block that dominates", true, []api.Single{named(branch(0, 1, 2, one), zero), named(jump(3), zero), named(jump(3), zero), named(stop(setVar(3, 2)), []int{2, 3})}},
		{"set on one of two ways", false, []api.Single{named(branch(0, 1, 2), zero), named(jump(3, one), zero), named(jump(3), zero), named(stop(setVar(3, 2)), zero)}},
		{"set on one of two ways, only in Last", false, []api.Single{named(branch(0, 1, 2), zero), named(jump(3, one), zero), named(jump(3), zero), named(stop(), []int{0, 2})}},
		{"set in a block that comes later", false, []api.Single{named(jump(1, setVar(3, 2)), zero), named(stop(one), zero)}},
		{"set later in a loop", false, []api.Single{named(jump(1), zero), named(jump(2, setVar(3, 2)), zero), named(branch(0, 1, 3, one), zero), named(stop(), zero)}},
		{"set before in a loop", true, []api.Single{named(jump(1), zero), named(jump(2, one), zero), named(branch(0, 1, 3, setVar(3, 2)), zero), named(stop(), []int{2, 3})}},
		{"set in a block that is not reached", false, []api.Single{named(jump(2), zero), named(jump(2, one), zero), named(stop(setVar(3, 2)), zero)}},
		{"a block that is not reached uses anything", true, []api.Single{named(stop(), zero), named(branch(9, 1, 1, setVar(2, 9), setVar(3, 4), setNum(4, 0)), []int{8, 7}, join(5, 9))}},
		{"a join uses anything from a block that is not reached", true, []api.Single{named(jump(2), zero), named(jump(2), zero), named(stop(), zero, join(2, 0, 9))}},
		{"a join uses a name of its block from a block that is not reached", true, []api.Single{named(jump(2), zero), named(jump(2), zero), named(stop(one), zero, join(3, 0, 2))}},
		{"a join uses anything, but not from the block that is reached", false, []api.Single{named(jump(2), zero), named(jump(2), zero), named(stop(), zero, join(2, 9, 0))}},
	} {
		if is, e := single.Once(2, c.l); is != c.want || e != api.OK {
			t.Errorf("%s: Once(2, %v) = %v, %v, want %v", c.name, c.l, is, e, c.want)
		}
		checkDefinitions(t, 2, c.l, []int{7, 8})
	}
}

// manySteps lists MaxLines steps that set the names 2 to 21: the first one uses the name from, and the others use that one's.
func manySteps(from int) []api.Step {
	code := []api.Step{setVar(2, from)}
	for len(code) < api.MaxLines {
		code = append(code, setVar(len(code)+2, 2))
	}
	return code
}

// M1, M3: all named programs of two blocks over one variable with at most one join and one step each, and few names.
func TestShortPrograms(t *testing.T) {
	code := [][]api.Step{nil}
	for to := 1; to <= 2; to++ {
		for from := range 3 {
			code = append(code, []api.Step{setVar(to, from)})
		}
	}
	programs, once := 0, 0
	for p := range sample.ShortPrograms(code) {
		if p[0].Test > 0 || p[1].Test > 0 {
			continue // One name that is tested is enough.
		}
		l := []api.Single{named(p[0], []int{0}), named(p[1], []int{1})}
		for _, first := range joinLists(len(comesFrom(l, 0))) {
			for _, second := range joinLists(len(comesFrom(l, 1))) {
				l[0].Joins, l[1].Joins = first, second
				programs++
				if checkForm(t, 1, l) {
					once++
				}
				// Many of them do not stop, and are slow: some are enough.
				if programs%20 == 0 {
					checkRun(t, 1, l, []int{5})
				}
			}
		}
	}
	if once < 4000 || once > programs-4000 {
		t.Errorf("only %d of %d programs are in the form", once, programs)
	}
}

// joinLists lists no join, and each single join with so many sources that sets the name 1 or 2 and uses these or 0.
func joinLists(sources int) [][]api.Join {
	froms := [][]int{nil}
	for range sources {
		var longer [][]int
		for _, from := range froms {
			for n := range 3 {
				longer = append(longer, append(slices.Clone(from), n))
			}
		}
		froms = longer
	}
	lists := [][]api.Join{nil}
	for to := 1; to <= 2; to++ {
		for _, from := range froms {
			lists = append(lists, []api.Join{join(to, from...)})
		}
	}
	return lists
}

// M1, M2, M3: named programs of all sizes that follow a fixed rule, as they are, with other names, and with one number changed.
func TestPrograms(t *testing.T) {
	pick := sample.Numbers()
	once, not, stopped := 0, 0, 0
	check := func(vars int, l []api.Single) {
		if checkDefinitions(t, vars, l, sample.Values(pick, vars)) {
			once++
		} else {
			not++
		}
		if _, _, stops := execute(vars, l, sample.Values(pick, vars)); stops {
			stopped++
		}
	}
	for round := range 6000 {
		vars, blocks, lines := 1+round%api.MaxVars, 1+pick(api.MaxNodes), pick(api.MaxLines+1)
		p := sample.Program(pick, vars, blocks, lines)
		built, e := single.Build(vars, p)
		if e != api.OK {
			t.Fatalf("Build(%d, %v) = %v", vars, p, e)
		}
		check(vars, built)
		names := vars + 1
		for _, b := range built {
			names += len(b.Joins) + len(b.Code)
		}
		for range 3 {
			rename(pick, built, min(names, api.MaxNames))
			check(vars, built)
		}
		other := anyProgram(pick, vars, p)
		check(vars, other)
		for _, l := range [][]api.Single{built, other} {
			spoil(pick, l)
			if e, want := single.Check(vars, l), checkError(vars, l); e != want {
				t.Fatalf("Check(%d, %v) = %v, want %v", vars, l, e, want)
			}
		}
	}
	if once < 6000 || not < 6000 || stopped < 5000 {
		t.Errorf("only %d programs are in the form, %d are not; only %d runs stopped", once, not, stopped)
	}
}

// anyProgram is a named program with the steps and ends of this program, which its variables name, and any joins of a few names.
func anyProgram(pick func(int) int, vars int, p []api.Block) []api.Single {
	l := make([]api.Single, len(p))
	for i, b := range p {
		l[i] = named(b, make([]int, vars))
		l[i].Code = slices.Clone(b.Code)
		for v := range vars {
			l[i].Last[v] = pick(vars + 2)
		}
	}
	for range pick(9) {
		i := pick(len(p))
		j := join(pick(vars + 2))
		for range comesFrom(l, i) {
			j.From = append(j.From, pick(vars+2))
		}
		l[i].Joins = append(l[i].Joins, j)
	}
	return l
}

// fields lists the numbers of a named program: those that are names, those that the ends of blocks have, and operations and values.
func fields(l []api.Single) (names, ends, others []*int) {
	for i := range l {
		b := &l[i]
		ends = append(ends, &b.Then, &b.Else)
		if b.Test == -1 {
			ends = append(ends, &b.Test)
		} else {
			names = append(names, &b.Test)
		}
		for v := range b.Last {
			names = append(names, &b.Last[v])
		}
		for n := range b.Joins {
			j := &b.Joins[n]
			names = append(names, &j.To)
			for k := range j.From {
				names = append(names, &j.From[k])
			}
		}
		for k := range b.Code {
			s := &b.Code[k]
			others = append(others, &s.Op)
			names = append(names, &s.To)
			switch s.Op {
			case api.ONum:
				others = append(others, &s.Val)
			case api.OVar:
				names = append(names, &s.Val)
			default:
				names = append(names, &s.A, &s.B)
			}
		}
	}
	return names, ends, others
}

// rename changes one name of a named program to another one, or exchanges two of them.
func rename(pick func(int) int, l []api.Single, count int) {
	names, _, _ := fields(l)
	a, b := names[pick(len(names))], names[pick(len(names))]
	if pick(2) == 0 {
		*a = pick(count)
	} else {
		*a, *b = *b, *a
	}
}

// spoil changes one number or two of a named program, or the length of a list, so that it may become invalid.
func spoil(pick func(int) int, l []api.Single) {
	for range 1 + pick(2) {
		names, ends, others := fields(l)
		b := &l[pick(len(l))]
		switch pick(5) {
		case 0:
			*ends[pick(len(ends))] = pick(12) - 2
		case 1:
			*names[pick(len(names))] = []int{-2, -1, 0, 127, 128, 129}[pick(6)]
		case 2:
			if len(others) > 0 {
				*others[pick(len(others))] = pick(12) - 2
			}
		case 3:
			if len(b.Joins) > 0 {
				j := &b.Joins[pick(len(b.Joins))]
				j.From = append(j.From, 0)[pick(3)/2:]
			}
		default:
			b.Last = append(b.Last, 0)[pick(3)/2:]
		}
	}
}
