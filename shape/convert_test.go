package shape_test

import (
	"slices"
	"testing"

	"codemason/api"
	"codemason/sample"
	"codemason/shape"
)

// watchedShape is a structured program over two variables, and a function that tells whether it has changed, also beyond the length of a list. It takes 1 from variable 0 until that is 0, and its lists overlap.
func watchedShape() (l []api.Shape, changed func() bool) {
	wrong := api.Step{Op: 99}
	steps := []api.Step{setNum(1, 1), set(api.OSub, 0, 0, 1), wrong}
	body := list(code(steps[:2]...), api.Shape{Kind: 99})
	top := list(both(0, body[:0], body[:1]), while(0, body[:1]...), both(0, nil, body[1:1]), code(steps[:1]...), api.Shape{Kind: 99})
	stepsBefore, bodyBefore, topBefore := slices.Clone(steps), slices.Clone(body), slices.Clone(top)
	return top[:4], func() bool {
		return !slices.Equal(steps, stepsBefore) || !slices.EqualFunc(body, bodyBefore, isSame) || !slices.EqualFunc(top, topBefore, isSame)
	}
}

// isSame reports whether two statements have the same kind, test and lists, which lie at the same places.
func isSame(a, b api.Shape) bool {
	sameCode := len(a.Code) == len(b.Code) && (len(a.Code) == 0 || &a.Code[0] == &b.Code[0])
	return a.Kind == b.Kind && a.Test == b.Test && sameCode && isSameList(a.Then, b.Then) && isSameList(a.Else, b.Else)
}

// isSameList reports whether two lists lie at the same place.
func isSameList(a, b []api.Shape) bool {
	return len(a) == len(b) && (len(a) == 0 || &a[0] == &b[0])
}

// U2: invalid programs, before too many variables.
func TestBuildRejects(t *testing.T) {
	check := func(name string, vars int, p []api.Block, want api.Errno) {
		if l, e := shape.Build(vars, p); len(l) != 0 || e != want {
			t.Errorf("%s: Build(%d, %v) = %v, %v, want an empty list, %v", name, vars, p, l, e, want)
		}
	}
	for _, c := range sample.BadPrograms() {
		check(c.Name, c.Vars, c.Program, c.Want)
	}
	for _, vars := range []int{5, 6} {
		check("valid", vars, []api.Block{stop()}, api.ErrLarge)
		check("valid and endless", vars, []api.Block{branch(0, 0, 1), jump(0, setNum(0, 1))}, api.ErrLarge)
		for _, c := range sample.BadSteps(vars) {
			check(c.Name, vars, []api.Block{jump(1), stop(setNum(0, 1), c.Step)}, c.Want)
		}
		check("Test", vars, []api.Block{branch(vars, 0, 0)}, api.ErrArg)
		check("Then", vars, []api.Block{jump(1)}, api.ErrForm)
		check("Else", vars, []api.Block{branch(vars-1, 0, 1)}, api.ErrForm)
	}
}

// U2: the document's example becomes one SWhile, which does not stop either.
func TestBuildExample(t *testing.T) {
	for vars := 1; vars <= 4; vars++ {
		for _, p := range [][]api.Block{{jump(0)}, {jump(0, setNum(0, 1))}} {
			l, e := shape.Build(vars, p)
			if e != api.OK || countLoops(l) != 1 {
				t.Errorf("Build(%d, %v) = %v, %v, want one SWhile", vars, p, l, e)
			}
			if vals, e := shape.Run(vars+2, l, make([]int, vars+2)); e != api.ErrLoop {
				t.Errorf("Build(%d, %v) = %v, which yields %v, %v, want ErrLoop", vars, p, l, vals, e)
			}
		}
	}
}

// U2: programs that are easily followed, with all values of a variable.
func TestBuild(t *testing.T) {
	one, down := setNum(1, 1), set(api.OSub, 0, 0, 1)
	var haves [][]int
	for a := range api.MaxVal + 1 {
		haves = append(haves, []int{a, 5, 0, 255})
	}
	for _, c := range []struct {
		name    string
		p       []api.Block
		stopped int
	}{
		{"stop", []api.Block{stop()}, 256},
		{"steps", []api.Block{stop(one, down, setVar(2, 0))}, 256},
		{"most steps", []api.Block{stop(slices.Repeat([]api.Step{set(api.OAdd, 1, 1, 0)}, api.MaxLines)...)}, 256},
		{"a way through all blocks", []api.Block{jump(7, one), stop(setVar(0, 1)), jump(1, setNum(2, 2)), jump(2, down), jump(3), jump(4), jump(5), jump(6)}, 256},
		{"a Test without steps", []api.Block{branch(0, 1, 2), stop(one), stop(setNum(1, 2))}, 256},
		{"a Test behind steps that set its variable", []api.Block{branch(0, 1, 2, one, down), stop(one), stop(setNum(1, 2))}, 256},
		{"Then and Else are the same", []api.Block{branch(0, 1, 1), stop(one)}, 256},
		{"around", []api.Block{branch(0, 0, 1, one, down), stop()}, 256},
		{"around and back to block 0", []api.Block{branch(0, 1, 2), jump(0, one, down), stop(setVar(3, 1))}, 256},
		{"into a loop from two sides", []api.Block{branch(0, 1, 2, one), jump(2, down, set(api.OAdd, 2, 2, 1)), branch(0, 1, 3, setVar(3, 0)), stop()}, 256},
		{"does not stop from 0", []api.Block{branch(0, 1, 2), stop(), jump(0)}, 255},
		{"blocks that are not reached", []api.Block{stop(one), branch(1, 0, 2), jump(1)}, 256},
		{"Else without Test", []api.Block{{Test: -1, Then: 1, Else: 2}, {Test: -1, Then: -1, Else: 2}, jump(2)}, 256},
	} {
		if stopped := checkBuild(t, 4, c.p, haves, 10000); stopped != c.stopped {
			t.Errorf("%s: %v stops from %d values, want %d", c.name, c.p, stopped, c.stopped)
		}
	}
}

// U2: a structured program takes no more turns than MaxTurns if the program does not, and stops even if the program takes many more.
func TestBuildTurns(t *testing.T) {
	down := func(v int) api.Step { return set(api.OSub, v, v, 3) }
	once := []api.Block{jump(1, setNum(3, 1)), branch(0, 1, 2, down(0)), stop()}
	twice := []api.Block{
		jump(1, setNum(3, 1)), branch(1, 1, 2, down(1), set(api.OAdd, 2, 2, 3)),
		branch(0, 1, 3, down(0)), stop(setVar(1, 2))}
	for a := range api.MaxVal + 1 {
		haves := [][]int{{a, 0, 0, 0}}
		if checkBuild(t, 4, once, haves, 300) != 1 {
			t.Errorf("%v does not stop from %v", once, haves)
		}
		if a%50 <= 1 && checkBuild(t, 4, twice, haves, 70000) != 1 {
			t.Errorf("%v does not stop from %v", twice, haves)
		}
	}
	// The program stops in the last block that it may execute: so must a structured program that Run takes.
	p := []api.Block{branch(0, 0, 1, setNum(1, 1), set(api.OSub, 0, 0, 1)), stop()}
	if l, e := shape.Build(2, p); e != api.OK || errorOf(4, l) != api.OK {
		t.Errorf("Build(2, %v) = %v, %v: too large for Run", p, l, e)
	} else if vals, e := shape.Run(4, l, []int{199, 7, 0, 0}); e != api.OK || !slices.Equal(vals[:2], []int{0, 1}) {
		t.Errorf("Run(4, %v, [199 7 0 0]) = %v, %v, want 0, 1", l, vals, e)
	}
}

// U2: all programs of two blocks over two variables, with one of some lists of steps in each of them.
func TestBuildShortPrograms(t *testing.T) {
	steps := [][]api.Step{nil, {setNum(0, 0)}, {setVar(1, 0)}, {set(api.OSub, 0, 0, 1)}, {set(api.OAdd, 1, 0, 0), setVar(0, 1)}}
	haves := [][]int{{0, 0}, {0, 1}, {1, 0}, {1, 1}, {4, 2}, {128, 255}}
	for p := range sample.ShortPrograms(steps) {
		checkBuild(t, 2, p, haves, 300)
	}
}

// U2: programs of all sizes that follow a fixed rule.
func TestBuildPrograms(t *testing.T) {
	pick := sample.Numbers()
	stopped := 0
	for round := range 6000 {
		vars := 1 + round%4
		p := sample.Program(pick, vars, 1+pick(api.MaxNodes), pick(api.MaxLines+1))
		sample.FillUnused(pick, vars, p)
		var haves [][]int
		for range 4 {
			haves = append(haves, sample.Values(pick, vars))
		}
		stopped += checkBuild(t, vars, p, haves, 400)
	}
	if stopped < 6000 {
		t.Errorf("only %d runs stopped", stopped)
	}
}

// U2: structured programs that are easily followed, whatever the number of turns.
func TestFlat(t *testing.T) {
	one := setNum(3, 1)
	countdown := func(v int, more ...api.Step) api.Shape {
		return while(v, code(one, set(api.OSub, v, v, 3)), code(more...))
	}
	two, three := code(setNum(1, 2)), code(setNum(1, 3))
	for _, c := range []struct {
		name string
		l    []api.Shape
	}{
		{"nothing", nil},
		{"SCode without steps", list(code())},
		{"SBoth", list(both(0, list(two), list(three)), code(setVar(2, 1)))},
		{"SBoth first and last", list(both(1, list(two), list(three)))},
		{"SBoth without Then", list(both(1, nil, list(three)), code(setVar(2, 1)))},
		{"SBoth without Else", list(both(1, list(two), nil), code(setVar(2, 1)))},
		{"SBoth without both", list(both(0, nil, nil), code(setVar(2, 1)))},
		{"SBoth in SBoth", list(both(0, list(both(1, list(two), list(three)), code(setVar(2, 1))), list(both(1, list(three), list(two)))))},
		{"SWhile", list(two, countdown(0, set(api.OAdd, 1, 1, 0)), code(setVar(2, 1)))},
		{"SWhile first and last", list(countdown(0))},
		{"SWhile behind SWhile", list(countdown(0, setVar(1, 0)), countdown(1))},
		{"SWhile at the end of SWhile", list(while(0, code(one, set(api.OSub, 0, 0, 3), setNum(1, 255)), countdown(1, set(api.OAdd, 2, 2, 0))))},
		{"SWhile at the start of SWhile", list(while(0, countdown(1, set(api.OAdd, 2, 2, 0)), code(one, set(api.OSub, 0, 0, 3), setVar(1, 0))))},
		{"SWhile alone in SWhile", list(while(0, countdown(0)))},
		{"SWhile in SBoth", list(both(1, list(countdown(1)), list(countdown(0))), two)},
		{"SBoth in SWhile", list(while(0, code(one, set(api.OSub, 0, 0, 3)), both(1, list(code(setNum(1, 0))), list(code(setNum(1, 1))))))},
		{"SBoth without both in SWhile", list(while(0, both(1, nil, nil), code(one, set(api.OSub, 0, 0, 3))))},
		{"an endless one that is not entered", list(both(0, list(both(0, nil, list(code(one), while(3)))), list(two)))},
	} {
		var haves [][]int
		for a := 0; a <= api.MaxVal; a += 15 {
			haves = append(haves, []int{a, a % 2, 7, 1})
		}
		if stopped := checkFlat(t, 4, c.l, haves, 70000); stopped != len(haves) {
			t.Errorf("%s: %v stops from only %d values", c.name, c.l, stopped)
		}
	}
}

// shortLists returns all lists of so many statements over two variables, with one of these lists of steps in each SCode.
func shortLists(most int, steps [][]api.Step) [][]api.Shape {
	lists := [][][]api.Shape{{nil}} // Of each number of statements.
	for n := 1; n <= most; n++ {
		var all [][]api.Shape
		for inside := range n {
			for _, s := range shortStatements(lists, inside, steps) {
				for _, rest := range lists[n-1-inside] {
					all = append(all, slices.Concat(list(s), rest))
				}
			}
		}
		lists = append(lists, all)
	}
	return slices.Concat(lists...)
}

// shortStatements returns all statements with so many others inside.
func shortStatements(lists [][][]api.Shape, inside int, steps [][]api.Step) []api.Shape {
	var all []api.Shape
	if inside == 0 {
		for _, s := range steps {
			all = append(all, code(s...))
		}
	}
	for test := range 2 {
		for _, body := range lists[inside] {
			all = append(all, while(test, body...))
		}
		for first := range inside + 1 {
			for _, then := range lists[first] {
				for _, other := range lists[inside-first] {
					all = append(all, both(test, then, other))
				}
			}
		}
	}
	return all
}

// U1, U2: all structured programs of up to three statements, and the document's definition of their errors and runs.
func TestShortShapes(t *testing.T) {
	steps := [][]api.Step{{setNum(0, 0)}, {setVar(1, 0)}, {set(api.OSub, 0, 0, 1), setNum(1, 1)}}
	haves := [][]int{{0, 0}, {0, 1}, {1, 0}, {1, 1}, {4, 2}}
	for _, l := range shortLists(3, steps) {
		if e := shape.Check(2, l); e != api.OK {
			t.Fatalf("Check(2, %v) = %v, want OK", l, e)
		}
		for _, have := range haves {
			checkRun(t, 2, l, have)
		}
		checkFlat(t, 2, l, haves, 300)
	}
}

// maker builds structured programs.
type maker struct {
	pick              func(int) int
	vars              int
	statements, steps int // So many may still be made.
}

// list builds a list that is nested so deep at most.
func (m *maker) list(deep int) []api.Shape {
	var l []api.Shape
	for deep > 0 && m.statements > 0 && m.pick(4) > 0 {
		m.statements--
		l = append(l, m.statement(deep-1))
	}
	return l
}

// statement builds a statement whose lists are nested so deep at most. Sometimes it also has those that its kind does not use.
func (m *maker) statement(deep int) api.Shape {
	switch m.pick(5) {
	case 0, 1:
		s := code(m.code()...)
		if m.pick(8) == 0 {
			s.Then, s.Else = m.list(deep), m.list(deep)
		}
		return s
	case 2, 3:
		s := both(m.pick(m.vars), m.list(deep), m.list(deep))
		if m.pick(8) == 0 {
			s.Code = []api.Step{{Op: m.pick(9)}}
		}
		return s
	}
	s := while(m.pick(m.vars), m.list(deep)...)
	if m.pick(8) == 0 {
		s.Else = m.list(deep)
	}
	return s
}

// code builds some steps.
func (m *maker) code() []api.Step {
	var steps []api.Step
	for m.steps > 0 && m.pick(4) > 0 {
		m.steps--
		steps = append(steps, sample.Step(m.pick, m.vars))
	}
	return steps
}

// U1, U2: structured programs that follow a fixed rule, as they are and with one number changed, and the document's definition of their errors and runs.
func TestShapes(t *testing.T) {
	pick := sample.Numbers()
	valid, large, stopped, endless := 0, 0, 0, 0
	for round := range 20000 {
		vars := 1 + round%api.MaxVars
		m := maker{pick, vars, 10, 22}
		l := m.list(6)
		want := errorOf(vars, l)
		switch want {
		case api.ErrLarge:
			large++
		case api.OK:
			valid++
			var haves [][]int
			for range 3 {
				have := sample.Values(pick, vars)
				haves = append(haves, have)
				if checkRun(t, vars, l, have) {
					stopped++
				} else {
					endless++
				}
			}
			checkFlat(t, vars, l, haves, 1000)
			spoil(pick, l)
			want = errorOf(vars, l)
		}
		if e := shape.Check(vars, l); e != want {
			t.Fatalf("Check(%d, %v) = %v, want %v", vars, l, e, want)
		}
	}
	if valid < 5000 || large < 500 || stopped < 5000 || endless < 1000 {
		t.Errorf("only %d were valid and %d large; only %d runs stopped, and %d did not", valid, large, stopped, endless)
	}
}

// spoil changes one number of a structured program or of a step there, which may become invalid.
func spoil(pick func(int) int, l []api.Shape) {
	if len(l) == 0 {
		return
	}
	s := &l[pick(len(l))]
	switch pick(6) {
	case 0:
		s.Kind = pick(6) - 1
	case 1:
		s.Test = pick(9) - 1
	case 2:
		spoil(pick, s.Then)
	case 3:
		spoil(pick, s.Else)
	default:
		if len(s.Code) > 0 {
			step := &s.Code[pick(len(s.Code))]
			*[]*int{&step.Op, &step.To, &step.A, &step.B, &step.Val}[pick(5)] = pick(9) - 1
		}
	}
}

// P3: arguments stay as they are, also beyond the length of a list, and the lists of results share no memory.
func TestConvertMemory(t *testing.T) {
	l, changedShape := watchedShape()
	p, changedProgram := sample.WatchedProgram()
	for range 2 {
		checkFlat(t, 2, l, [][]int{{3, 9}}, 200)
		checkBuild(t, 2, p, [][]int{{3, 9}}, 200)
		if q, _ := shape.Flat(2, l); sample.SharesCode(q) {
			t.Errorf("lists of Flat(2, %v) share memory", l)
		}
		if m, _ := shape.Build(2, p); sharesMemory(m) {
			t.Errorf("lists of Build(2, %v) share memory", p)
		}
	}
	if changedShape() || changedProgram() {
		t.Errorf("the arguments changed: %v, %v", l, p)
	}
}

// sharesMemory overwrites statements, and reports whether two of their lists share memory.
func sharesMemory(l []api.Shape) bool {
	lists := allLists(l)
	var steps [][]api.Step
	for _, m := range lists {
		for _, s := range m {
			steps = append(steps, s.Code)
		}
	}
	return sample.Overlap(steps, func(mark int) api.Step { return api.Step{Val: mark} }, func(s api.Step) int { return s.Val }) ||
		sample.Overlap(lists, func(mark int) api.Shape { return api.Shape{Test: mark} }, func(s api.Shape) int { return s.Test })
}

// allLists lists a list and all lists inside.
func allLists(l []api.Shape) [][]api.Shape {
	all := [][]api.Shape{l}
	for _, s := range l {
		all = slices.Concat(all, allLists(s.Then), allLists(s.Else))
	}
	return all
}
