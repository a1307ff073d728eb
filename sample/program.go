package sample

import (
	"iter"
	"math"
	"slices"

	"codemason/api"
)

// Stop is a block behind which a program stops.
func Stop(code ...api.Step) api.Block {
	return api.Block{Code: code, Test: -1, Then: -1, Else: Junk}
}

// Jump is a block that continues with the block to.
func Jump(to int, code ...api.Step) api.Block {
	return api.Block{Code: code, Test: -1, Then: to, Else: Junk}
}

// Branch is a block that continues with the block then if the variable test is not 0, and else with the block other.
func Branch(test, then, other int, code ...api.Step) api.Block {
	return api.Block{Code: code, Test: test, Then: then, Else: other}
}

// BadStep is a step that is invalid.
type BadStep struct {
	Name string
	Step api.Step
	Want api.Errno
}

// BadSteps lists steps that are invalid where so many variables are the registers.
func BadSteps(vars int) []BadStep {
	bad := []BadStep{
		{"kind before range", api.Step{Op: 7, Val: 256}, api.ErrKind},
		{"kind before arg", api.Step{Op: 99, To: Junk, A: Junk, B: Junk, Val: Junk}, api.ErrKind},
		{"number before arg", SetNum(vars, 256), api.ErrRange},
		{"variable before arg", SetVar(vars, vars), api.ErrRange},
	}
	for _, kind := range []int{math.MinInt, -1, 0, api.OLess + 1, math.MaxInt} {
		bad = append(bad, BadStep{"kind", api.Step{Op: kind}, api.ErrKind})
	}
	for _, v := range Outside(api.MaxVal + 1) {
		bad = append(bad, BadStep{"number", SetNum(0, v), api.ErrRange})
	}
	for _, v := range Outside(vars) {
		bad = append(bad,
			BadStep{"variable", SetVar(0, v), api.ErrRange},
			BadStep{"To of a number", SetNum(v, 1), api.ErrArg},
			BadStep{"To of a variable", SetVar(v, 0), api.ErrArg})
		for kind := api.OAdd; kind <= api.OLess; kind++ {
			bad = append(bad,
				BadStep{"To", SetOp(kind, v, 0, 0), api.ErrArg},
				BadStep{"A", SetOp(kind, 0, v, 0), api.ErrArg},
				BadStep{"B", SetOp(kind, 0, 0, v), api.ErrArg})
		}
	}
	return bad
}

// BadProgram is a program that is invalid.
type BadProgram struct {
	Name    string
	Vars    int
	Program []api.Block
	Want    api.Errno
}

// BadPrograms lists invalid programs, which all functions of programs reject.
func BadPrograms() []BadProgram {
	return slices.Concat(largePrograms(), badBlocks(), mixedPrograms())
}

// largePrograms lists programs with too much or too little of something, which counts before what is wrong in a block.
func largePrograms() []BadProgram {
	some := slices.Repeat([]api.Step{SetNum(0, 1)}, 3)
	most := slices.Repeat([]api.Step{SetNum(0, 1)}, api.MaxLines)
	more := append(slices.Clone(most), SetNum(0, 1))
	bad := []BadProgram{
		{"nil", 1, nil, api.ErrLarge},
		{"empty", 1, []api.Block{}, api.ErrLarge},
		{"too many blocks", 1, slices.Repeat([]api.Block{Stop()}, api.MaxNodes+1), api.ErrLarge},
		{"too many steps", 1, []api.Block{Stop(more...)}, api.ErrLarge},
		{"too many steps of the last block", 1, []api.Block{Jump(1), Stop(more...)}, api.ErrLarge},
		{"too many steps in total", 1, []api.Block{Jump(1, most...), Stop(some[:1]...)}, api.ErrLarge},
		{"too many steps with those that are not executed", 1, []api.Block{Stop(some[:1]...), Stop(most...)}, api.ErrLarge},
		{"too many steps of many blocks", 1, slices.Repeat([]api.Block{Stop(some...)}, 7), api.ErrLarge},
		{"too many blocks before kind", 1, slices.Repeat([]api.Block{Stop(api.Step{})}, api.MaxNodes+1), api.ErrLarge},
		{"too many steps before kind", 1, []api.Block{Stop(append(most, api.Step{})...)}, api.ErrLarge},
		{"too many steps before arg", 1, []api.Block{Branch(9, 0, 0, more...)}, api.ErrLarge},
		{"too many steps before form", 1, []api.Block{Jump(9, more...)}, api.ErrLarge},
	}
	for _, vars := range append(Outside(api.MaxVars+1), 0) {
		bad = append(bad,
			BadProgram{"vars", vars, []api.Block{Stop()}, api.ErrLarge},
			BadProgram{"vars before kind", vars, []api.Block{Stop(api.Step{})}, api.ErrLarge},
			BadProgram{"vars before form", vars, []api.Block{Jump(1)}, api.ErrLarge})
	}
	return bad
}

// badBlocks lists programs in which one block is invalid, whether it can be executed or not.
func badBlocks() []BadProgram {
	var bad []BadProgram
	for blocks := 1; blocks <= api.MaxNodes; blocks++ {
		for i := range blocks {
			with := func(name string, want api.Errno, b api.Block) {
				p := slices.Repeat([]api.Block{Stop(SetVar(0, 1), SetNum(1, 255))}, blocks)
				p[i] = b
				bad = append(bad, BadProgram{name, 2, p, want})
			}
			for _, s := range BadSteps(2) {
				with(s.Name, s.Want, Stop(SetNum(0, 1), s.Step, SetNum(0, 1)))
			}
			for _, v := range []int{math.MinInt, -2, 2, 3, math.MaxInt} {
				with("Test", api.ErrArg, Branch(v, 0, 0))
				with("Test where Then is -1", api.ErrArg, Branch(v, -1, 0))
			}
			for _, to := range Outside(blocks) {
				with("Then", api.ErrForm, Branch(1, to, 0))
				with("Else", api.ErrForm, Branch(1, 0, to))
				with("Then and Else", api.ErrForm, Branch(1, to, to))
			}
			for _, to := range []int{math.MinInt, -2, blocks, blocks + 1, math.MaxInt} {
				with("Then without Test", api.ErrForm, Jump(to))
			}
		}
	}
	return bad
}

// mixedPrograms lists programs with several errors, which show their order.
func mixedPrograms() []BadProgram {
	kind, value, arg := api.Step{Op: 99}, SetNum(0, 256), SetNum(5, 1)
	return []BadProgram{
		{"first step is kind", 1, []api.Block{Stop(SetNum(0, 1), kind, value, arg)}, api.ErrKind},
		{"first step is range", 1, []api.Block{Stop(value, arg, kind)}, api.ErrRange},
		{"first step is arg", 1, []api.Block{Stop(arg, kind, value)}, api.ErrArg},
		{"kind before Test", 1, []api.Block{Branch(-2, 0, 0, SetNum(0, 1), kind)}, api.ErrKind},
		{"range before Test", 1, []api.Block{Branch(1, 0, 0, SetNum(0, 1), value)}, api.ErrRange},
		{"arg of a step before form", 1, []api.Block{Jump(1, SetNum(0, 1), arg)}, api.ErrArg},
		{"range before form", 1, []api.Block{Branch(0, 0, 1, SetNum(0, 1), value)}, api.ErrRange},
		{"Test before Then", 1, []api.Block{Branch(1, 1, 0)}, api.ErrArg},
		{"Test before Else", 1, []api.Block{Branch(-2, 0, 1)}, api.ErrArg},
		{"first block is kind", 1, []api.Block{Stop(), Stop(kind), Branch(1, 0, 0), Jump(9, value)}, api.ErrKind},
		{"first block is range", 1, []api.Block{Stop(value), Branch(1, 0, 0), Jump(9), Stop(kind)}, api.ErrRange},
		{"first block is Test", 1, []api.Block{Branch(1, 0, 0), Jump(9), Stop(kind), Stop(value)}, api.ErrArg},
		{"first block is Then", 1, []api.Block{Jump(9), Stop(kind), Stop(value), Branch(1, 0, 0)}, api.ErrForm},
		{"first block is Else", 1, []api.Block{Branch(0, 0, 9), Stop(kind), Stop(value), Branch(1, 0, 0)}, api.ErrForm},
	}
}

// Program builds a program of so many blocks with so many steps in total.
func Program(pick func(int) int, vars, blocks, lines int) []api.Block {
	p := make([]api.Block, blocks)
	for i := range p {
		switch pick(6) {
		case 0:
			p[i] = Stop()
		case 1, 2:
			p[i] = Jump(pick(blocks))
		default:
			p[i] = Branch(pick(vars), pick(blocks), pick(blocks))
		}
	}
	for range lines {
		b := &p[pick(blocks)]
		b.Code = append(b.Code, Step(pick, vars))
	}
	return p
}

// Step builds a step over so many variables: its numbers are small or any.
func Step(pick func(int) int, vars int) api.Step {
	to := pick(vars)
	switch pick(8) {
	case 0:
		return SetNum(to, pick(3))
	case 1:
		return SetNum(to, pick(api.MaxVal+1))
	case 2, 3:
		return SetVar(to, pick(vars))
	}
	return SetOp(operator(pick), to, pick(vars), pick(vars))
}

// Values builds values of so many variables: each is small or any.
func Values(pick func(int) int, vars int) []int {
	have := make([]int, vars)
	for v := range have {
		have[v] = pick([]int{3, api.MaxVal + 1}[pick(2)])
	}
	return have
}

// Execute changes the values of variables as steps do, by the document's definition.
func Execute(code []api.Step, vals []int) {
	for _, s := range code {
		switch s.Op {
		case api.ONum:
			vals[s.To] = s.Val
		case api.OVar:
			vals[s.To] = vals[s.Val]
		default:
			vals[s.To] = Apply(s.Op, vals[s.A], vals[s.B])
		}
	}
}

// RunBlock changes the values of variables as a block does, by the document's definition, and returns the next block or -1.
func RunBlock(b api.Block, vals []int) int {
	Execute(b.Code, vals)
	if b.Test != -1 && vals[b.Test] == 0 {
		return b.Else
	}
	return b.Then
}

// WatchedProgram is a program over two variables, and a function that tells whether it has changed, also beyond the length of a list. It takes 1 from variable 0 until that is 0.
func WatchedProgram() (p []api.Block, changed func() bool) {
	wrong := api.Step{Op: 99}
	steps := []api.Step{
		SetVar(1, 0), wrong,
		SetNum(1, 1), SetOp(api.OSub, 0, 0, 1), wrong,
		wrong,
	}
	blocks := []api.Block{Jump(1, steps[:1]...), Branch(0, 1, 2, steps[2:4]...), Stop(steps[5:5]...), Jump(99)}
	stepsBefore, blocksBefore := slices.Clone(steps), slices.Clone(blocks)
	same := func(a, b api.Block) bool {
		sameCode := len(a.Code) == len(b.Code) && (len(a.Code) == 0 || &a.Code[0] == &b.Code[0])
		return sameCode && a.Test == b.Test && a.Then == b.Then && a.Else == b.Else
	}
	return blocks[:3], func() bool {
		return !slices.Equal(steps, stepsBefore) || !slices.EqualFunc(blocks, blocksBefore, same)
	}
}

// ShortPrograms yields all programs of two blocks over two variables whose blocks have one of these lists of steps each.
func ShortPrograms(code [][]api.Step) iter.Seq[[]api.Block] {
	var blocks []api.Block
	for _, c := range code {
		for then := -1; then < 2; then++ {
			blocks = append(blocks, Jump(then, c...))
		}
		for fields := range 8 {
			blocks = append(blocks, Branch(fields&1, fields>>1&1, fields>>2, c...))
		}
	}
	return func(yield func([]api.Block) bool) {
		for _, a := range blocks {
			for _, b := range blocks {
				if !yield([]api.Block{a, b}) {
					return
				}
			}
		}
	}
}

// FillUnused puts numbers of variables or blocks into the fields that are not used.
func FillUnused(pick func(int) int, vars int, p []api.Block) {
	for i := range p {
		if p[i].Test == -1 {
			p[i].Else = pick(len(p))
		}
		for k := range p[i].Code {
			s := &p[i].Code[k]
			if s.Op == api.ONum || s.Op == api.OVar {
				s.A, s.B = pick(vars), pick(vars)
			} else {
				s.Val = pick(vars)
			}
		}
	}
}

// Place is where a program may be: before a step of a block, or behind the last one if Step is the number of its steps.
type Place struct{ Block, Step int }

// Leads reports whether some way from a place leads to one for which found reports true, where no way goes on from a place for which ends reports true.
func Leads(p []api.Block, from Place, found, ends func(at Place) bool) bool {
	places := []Place{from}
	// Each place is visited once.
	add := func(at Place) {
		if !slices.Contains(places, at) {
			places = append(places, at)
		}
	}
	for n := 0; n < len(places); n++ {
		at := places[n]
		if found(at) {
			return true
		}
		if ends(at) {
			continue
		}
		b := p[at.Block]
		if at.Step < len(b.Code) {
			add(Place{at.Block, at.Step + 1})
			continue
		}
		if b.Then != -1 {
			add(Place{b.Then, 0})
		}
		if b.Test != -1 {
			add(Place{b.Else, 0})
		}
	}
	return false
}

// Stops reports whether a program stops behind a block.
func Stops(b api.Block) bool { return b.Test == -1 && b.Then == -1 }

// Uses reports whether a step uses variable v.
func Uses(s api.Step, v int) bool {
	switch s.Op {
	case api.ONum:
		return false
	case api.OVar:
		return s.Val == v
	}
	return s.A == v || s.B == v
}

// CountSteps is the number of steps of all blocks.
func CountSteps(p []api.Block) int {
	count := 0
	for _, b := range p {
		count += len(b.Code)
	}
	return count
}

// SameProgram reports whether two programs are the same in all fields.
func SameProgram(p, q []api.Block) bool {
	return slices.EqualFunc(p, q, func(a, b api.Block) bool {
		return slices.Equal(a.Code, b.Code) && a.Test == b.Test && a.Then == b.Then && a.Else == b.Else
	})
}

// SharesCode overwrites a program, and reports whether two lists of it share memory.
func SharesCode(p []api.Block) bool {
	for i, b := range p {
		for k := range b.Code[:cap(b.Code)] {
			b.Code[:cap(b.Code)][k] = api.Step{Val: i}
		}
	}
	shares := false
	for i, b := range p {
		shares = shares || slices.ContainsFunc(b.Code[:cap(b.Code)], func(s api.Step) bool { return s.Val != i })
	}
	clear(p[:cap(p)])
	return shares
}
