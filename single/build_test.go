package single_test

import (
	"slices"
	"testing"

	"codemason/api"
	"codemason/block"
	"codemason/sample"
	"codemason/single"
)

// M3: invalid programs.
func TestInvalidBlocks(t *testing.T) {
	for _, c := range sample.BadPrograms() {
		if l, e := single.Build(c.Vars, c.Program); len(l) != 0 || e != c.Want {
			t.Errorf("%s: Build(%d, %v) = %v, %v, want an empty list, %v", c.Name, c.Vars, c.Program, l, e, c.Want)
		}
	}
}

// M3: programs that need a join or none, the document's example first.
func TestBuild(t *testing.T) {
	one := setNum(0, 1)
	for _, c := range []struct {
		name string
		p    []api.Block
		want [][]int // For each block, the number of elements in From of each of its joins.
	}{
		{"example", []api.Block{jump(0, one)}, [][]int{{2}}},
		{"no steps", []api.Block{branch(0, 0, 1), stop()}, [][]int{nil, nil}},
		{"one block", []api.Block{stop(one, setVar(1, 0), one)}, [][]int{nil}},
		{"one way", []api.Block{jump(1, one), jump(2, one), stop(one)}, [][]int{nil, nil, nil}},
		{"two ways", []api.Block{branch(0, 1, 2), jump(3, one), jump(3), stop()}, [][]int{nil, nil, nil, {2}}},
		{"two ways that set two variables", []api.Block{branch(0, 1, 2), jump(3, one), jump(3, setVar(1, 0)), stop()}, [][]int{nil, nil, nil, {2, 2}}},
		{"set ahead of two ways", []api.Block{branch(0, 1, 2, one), jump(3), jump(3), stop(one)}, [][]int{nil, nil, nil, nil}},
		{"a loop", []api.Block{jump(1), branch(0, 1, 2, set(api.OSub, 0, 0, 1)), stop()}, [][]int{nil, {2}, nil}},
		{"a loop behind the first block, ahead of another join", []api.Block{branch(1, 1, 2), jump(0, one), stop()}, [][]int{{2}, nil, nil}},
		{"only a block that is not reached sets it", []api.Block{jump(2), jump(2, one), stop()}, [][]int{nil, nil, nil}},
		{"a join with a source that is not reached", []api.Block{branch(0, 1, 3), jump(3, one), jump(3, one), stop()}, [][]int{nil, nil, nil, {3}}},
	} {
		l := checkBuild(t, 2, c.p, [][]int{{0, 1}, {3, 1}, {7, 0}})
		for i, b := range l {
			var sizes []int
			for _, j := range b.Joins {
				sizes = append(sizes, len(j.From))
			}
			if !slices.Equal(sizes, c.want[i]) {
				t.Errorf("%s: Build(2, %v) = %v, want joins of %v in block %d", c.name, c.p, l, c.want[i], i)
			}
		}
	}
}

// M3: the program that needs most names and joins.
func TestMostNames(t *testing.T) {
	var p []api.Block
	for i := range api.MaxNodes {
		// Each block leads to the next two, so that it has two sources, and sets some variables.
		var code []api.Step
		for k := range api.MaxLines / api.MaxNodes {
			code = append(code, set(api.OAdd, (2*i+k)%6, i%6, (i+1)%6))
		}
		p = append(p, branch(i%6, (i+1)%8, (i+2)%8, code...))
	}
	p[0].Code = append(p[0].Code, setNum(3, 1), setNum(4, 2), setNum(5, 255), setVar(2, 0))
	l := checkBuild(t, 6, p, [][]int{{0, 1, 2, 3, 4, 5}, {255, 1, 0, 0, 9, 8}, {0, 0, 0, 0, 0, 0}})
	joins, steps := 0, 0
	for _, b := range l {
		joins += len(b.Joins)
		steps += len(b.Code)
	}
	if joins != 6*api.MaxNodes || steps != api.MaxLines {
		t.Errorf("%d joins, %d steps: %v", joins, steps, l)
	}
}

// M3: all programs of two blocks over two variables, with at most one step in each of them.
func TestShortBuild(t *testing.T) {
	code := [][]api.Step{nil}
	for to := range 2 {
		code = append(code, []api.Step{setNum(to, to)}, []api.Step{set(api.OSub, to, 1, 0)}, []api.Step{set(api.OSub, to, 0, 1)})
		for a := range 2 {
			code = append(code, []api.Step{setVar(to, a)})
		}
	}
	for p := range sample.ShortPrograms(code) {
		checkBuild(t, 2, p, [][]int{{0, 1}, {1, 0}, {4, 2}})
	}
}

// M3: programs of all sizes that follow a fixed rule.
func TestBuildPrograms(t *testing.T) {
	pick := sample.Numbers()
	joins, stopped := 0, 0
	for round := range 8000 {
		vars, blocks, lines := 1+round%api.MaxVars, 1+pick(api.MaxNodes), pick(api.MaxLines+1)
		p := sample.Program(pick, vars, blocks, lines)
		if round%2 == 0 {
			sample.FillUnused(pick, vars, p)
		}
		var haves [][]int
		for range 3 {
			haves = append(haves, sample.Values(pick, vars))
			if _, _, e := block.Run(vars, p, haves[len(haves)-1]); e == api.OK {
				stopped++
			}
		}
		for _, b := range checkBuild(t, vars, p, haves) {
			joins += len(b.Joins)
		}
	}
	if joins < 15000 || stopped < 7000 {
		t.Errorf("only %d joins; only %d runs stopped", joins, stopped)
	}
}

// checkBuild checks what the document promises of Build for a valid program, with runs from these initial values, and returns the result.
func checkBuild(t *testing.T, vars int, p []api.Block, haves [][]int) []api.Single {
	t.Helper()
	l, e := single.Build(vars, p)
	if e != api.OK || len(l) != len(p) {
		t.Fatalf("Build(%d, %v) = %v, %v: not as many blocks", vars, p, l, e)
	}
	for i, b := range l {
		if b.Then != p[i].Then || b.Else != p[i].Else {
			t.Fatalf("Build(%d, %v) = %v: other Then or Else in block %d", vars, p, l, i)
		}
	}
	if !checkForm(t, vars, l) {
		t.Fatalf("Build(%d, %v) = %v, which is not in the form", vars, p, l)
	}
	for _, have := range haves {
		lasts := checkRun(t, vars, l, have)
		want, _, wantError := block.Run(vars, p, have)
		if vals, e := single.Run(vars, l, have); !slices.Equal(vals, want) || e != wantError {
			t.Fatalf("Build(%d, %v) = %v, which yields %v, %v from %v, want %v, %v", vars, p, l, vals, e, have, want, wantError)
		}
		if wantLasts := valuesBehind(p, have); !slices.EqualFunc(lasts, wantLasts, slices.Equal) {
			t.Fatalf("Build(%d, %v) = %v, where Last has %v from %v, want %v", vars, p, l, lasts, have, wantLasts)
		}
	}
	return l
}

// valuesBehind is, for each block that a program executes, the values of the variables at its end.
func valuesBehind(p []api.Block, have []int) [][]int {
	var all [][]int
	vals := slices.Clone(have)
	at := 0
	for len(all) < api.MaxTurns && at != -1 {
		at = sample.RunBlock(p[at], vals)
		all = append(all, slices.Clone(vals))
	}
	return all
}

// P3: the program stays as it is, also beyond the length of a list, and results share no memory.
func TestBuildMemory(t *testing.T) {
	p, changed := sample.WatchedProgram()
	more := []api.Block{branch(0, 1, 2), jump(0, setNum(0, 1), setNum(1, 2)), branch(1, 1, 2, setVar(0, 1), set(api.OAdd, 1, 0, 0))}
	for range 2 {
		checkBuild(t, 2, p, [][]int{{3, 9}})
		checkBuild(t, 2, more, [][]int{{3, 9}})
		for _, q := range [][]api.Block{p, more} {
			l, _ := single.Build(2, q)
			checkApart(t, l)
		}
	}
	if changed() {
		t.Errorf("the program changed: %v", p)
	}
}

// checkApart overwrites a named program, and checks that no two lists of it share memory.
func checkApart(t *testing.T, l []api.Single) {
	t.Helper()
	var numbers [][]int
	var joins [][]api.Join
	var code [][]api.Step
	for _, b := range l {
		numbers = append(numbers, b.Last)
		joins = append(joins, b.Joins)
		code = append(code, b.Code)
		for _, j := range b.Joins {
			numbers = append(numbers, j.From)
		}
	}
	if sample.Overlap(numbers, func(mark int) int { return mark }, func(n int) int { return n }) {
		t.Errorf("lists of names share memory: %v", l)
	}
	if sample.Overlap(code, func(mark int) api.Step { return api.Step{Val: mark} }, func(s api.Step) int { return s.Val }) {
		t.Errorf("lists of steps share memory: %v", l)
	}
	if sample.Overlap(joins, func(mark int) api.Join { return api.Join{To: mark} }, func(j api.Join) int { return j.To }) {
		t.Errorf("lists of joins share memory: %v", l)
	}
	clear(l[:cap(l)])
}

// P3: named programs and initial values stay as they are, also beyond the length of a list, and results share no memory.
func TestMemory(t *testing.T) {
	numbers := []int{0, 3, 999, 2, 888, 3, 777}
	joins := []api.Join{join(2, numbers[0:2]...), join(-5)}
	code := []api.Step{setNum(1, 1), set(api.OSub, 3, 2, 1), {Op: 99}}
	values := []int{3, 300}
	blocks := []api.Single{
		named(branch(3, 0, 1, code[:2]...), numbers[3:4], joins[:1]...),
		named(stop(code[2:2]...), numbers[5:6], joins[1:1]...),
		{Test: -9}}
	numbersBefore, codeBefore, valuesBefore := slices.Clone(numbers), slices.Clone(code), slices.Clone(values)
	for range 2 {
		checkDefinitions(t, 1, blocks[:2], values[:1])
		vals, e := single.Run(1, blocks[:2], values[:1])
		if !slices.Equal(vals, []int{0}) || e != api.OK {
			t.Errorf("Run = %v, %v, want [0]", vals, e)
		}
		clear(vals[:cap(vals)])
	}
	same := slices.Equal(numbers, numbersBefore) && slices.Equal(code, codeBefore) && slices.Equal(values, valuesBefore)
	if !same || joins[0].To != 2 || joins[1].To != -5 || blocks[0].Test != 3 || blocks[1].Test != -1 || blocks[2].Test != -9 {
		t.Errorf("the arguments changed: %v, %v, %v, %v", numbers, code, values, blocks)
	}
}
