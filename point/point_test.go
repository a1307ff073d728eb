package point_test

import (
	"math"
	"slices"
	"testing"

	"codemason/api"
	"codemason/point"
	"codemason/sample"
)

// addr, same, load and store make the statements of each kind.
func addr(to, from int) api.Point  { return api.Point{Kind: api.PAddr, To: to, From: from} }
func same(to, from int) api.Point  { return api.Point{Kind: api.PCopy, To: to, From: from} }
func load(to, from int) api.Point  { return api.Point{Kind: api.PLoad, To: to, From: from} }
func store(to, from int) api.Point { return api.Point{Kind: api.PStore, To: to, From: from} }

// badList has variables and statements that are invalid.
type badList struct {
	name string
	vars int
	l    []api.Point
	want api.Errno
}

// largeLists lists invalid numbers of variables or statements, which count before all that is wrong in a statement.
func largeLists() []badList {
	keep, unknown, wrong := same(0, 0), api.Point{Kind: 99}, addr(-1, -1)
	most := slices.Repeat([]api.Point{keep}, api.MaxPoint)
	bad := []badList{
		{"too many statements", 1, append(slices.Clone(most), keep), api.ErrLarge},
		{"too many statements before kind", 8, append([]api.Point{unknown}, most...), api.ErrLarge},
		{"too many statements before arg", 8, append(slices.Clone(most), wrong), api.ErrLarge},
		{"many statements", 8, slices.Repeat(most, 3), api.ErrLarge},
		{"most statements with a wrong kind", 8, append(slices.Clone(most[1:]), unknown), api.ErrKind},
		{"most statements with a wrong To", 8, append(slices.Clone(most[1:]), wrong), api.ErrArg},
	}
	for _, vars := range append(sample.Outside(api.MaxNodes+1), 0) {
		for _, s := range []api.Point{keep, unknown, wrong} {
			bad = append(bad, badList{"vars with a statement", vars, []api.Point{s}, api.ErrLarge})
		}
		bad = append(bad, badList{"vars", vars, nil, api.ErrLarge})
	}
	return bad
}

// wrongLists lists statements the first invalid one of which is at any place.
func wrongLists() []badList {
	var bad []badList
	for vars := 1; vars <= api.MaxNodes; vars++ {
		last := vars - 1
		for place := range vars {
			with := func(name string, wrong api.Point, want api.Errno) {
				l := slices.Repeat([]api.Point{load(0, last)}, vars)
				l[place] = wrong
				bad = append(bad, badList{name, vars, l, want})
			}
			for _, kind := range []int{math.MinInt, -1, 0, api.PStore + 1, math.MaxInt} {
				with("kind", api.Point{Kind: kind, To: last, From: 0}, api.ErrKind)
				with("kind before arg", api.Point{Kind: kind, To: -1, From: vars}, api.ErrKind)
			}
			for kind := api.PAddr; kind <= api.PStore; kind++ {
				for _, v := range sample.Outside(vars) {
					with("To", api.Point{Kind: kind, To: v, From: last}, api.ErrArg)
					with("From", api.Point{Kind: kind, To: last, From: v}, api.ErrArg)
					with("To and From", api.Point{Kind: kind, To: v, From: v}, api.ErrArg)
				}
			}
		}
	}
	unknown := api.Point{Kind: 0}
	return append(bad,
		badList{"kind of the first invalid one", 2, []api.Point{addr(0, 1), unknown, addr(2, 0)}, api.ErrKind},
		badList{"To of the first invalid one", 2, []api.Point{addr(0, 1), addr(2, 0), unknown}, api.ErrArg},
		badList{"From of the first invalid one", 2, []api.Point{store(0, -1), unknown}, api.ErrArg})
}

// V1, V2: the common errors, which come before those of the elements of a script.
func TestInvalidStatements(t *testing.T) {
	for _, c := range slices.Concat(largeLists(), wrongLists()) {
		for _, script := range [][]int{nil, {0}, {-1}, {len(c.l), 0}} {
			checkRun(t, c.name, c.vars, c.l, script, nil, c.want)
		}
		// What is too large counts first, wherever it is.
		checkRun(t, c.name, c.vars, c.l, make([]int, api.MaxTurns+1), nil, api.ErrLarge)
		checkSets(t, c.name, c.vars, c.l, nil, nil, c.want)
	}
}

// V1: scripts that are too long, or have elements that are not the number of a statement.
func TestInvalidScripts(t *testing.T) {
	all := statements(2)[:api.MaxPoint]
	for count := range api.MaxPoint + 1 {
		l := all[:count]
		checkRun(t, "too long", 2, l, make([]int, api.MaxTurns+1), nil, api.ErrLarge)
		checkRun(t, "far too long", 2, l, make([]int, 10*api.MaxTurns), nil, api.ErrLarge)
		checkRun(t, "too long before none", 2, l, slices.Repeat([]int{-1}, api.MaxTurns+1), nil, api.ErrLarge)
		for _, n := range sample.Outside(count) {
			checkRun(t, "alone", 2, l, []int{n}, nil, api.ErrNone)
			if count == 0 {
				continue
			}
			for _, place := range []int{0, 1, 99, api.MaxTurns - 1} {
				script := make([]int, api.MaxTurns)
				script[place] = n
				checkRun(t, "among others", 2, l, script, nil, api.ErrNone)
				checkRun(t, "the last one", 2, l, script[:place+1], nil, api.ErrNone)
			}
		}
	}
}

// V1: runs whose results are easily seen.
func TestRuns(t *testing.T) {
	for _, c := range []struct {
		name   string
		vars   int
		l      []api.Point
		script []int
		want   []int
	}{
		{"nothing", 1, nil, nil, []int{-1}},
		{"nothing of most variables", 8, []api.Point{}, []int{}, slices.Repeat([]int{-1}, 8)},
		{"no statement is executed", 2, []api.Point{addr(0, 1)}, nil, []int{-1, -1}},
		{"the document's example", 3, []api.Point{addr(0, 2), same(1, 0)}, []int{0, 1}, []int{2, 2, -1}},
		{"the same statements the other way around", 3, []api.Point{addr(0, 2), same(1, 0)}, []int{1, 0}, []int{2, -1, -1}},
		{"to itself", 1, []api.Point{addr(0, 0)}, []int{0}, []int{0}},
		{"to the last variable", 8, []api.Point{addr(7, 7), addr(0, 7)}, []int{0, 1}, []int{7, -1, -1, -1, -1, -1, -1, 7}},
		{"to another one", 3, []api.Point{addr(0, 1), addr(0, 2)}, []int{0, 1}, []int{2, -1, -1}},
		{"a statement again", 3, []api.Point{addr(0, 1), addr(0, 2)}, []int{0, 1, 0}, []int{1, -1, -1}},
		{"a copy stays", 3, []api.Point{addr(0, 1), same(2, 0), addr(0, 2)}, []int{0, 1, 2}, []int{2, -1, 1}},
		{"a copy of itself", 2, []api.Point{addr(0, 1), same(0, 0)}, []int{0, 1}, []int{1, -1}},
		{"a copy of none", 3, []api.Point{addr(0, 1), same(0, 2)}, []int{0, 1}, []int{-1, -1, -1}},
		{"a load", 4, []api.Point{addr(0, 1), addr(1, 2), load(3, 0)}, []int{0, 1, 2}, []int{1, 2, -1, 2}},
		{"a load by way of nothing", 3, []api.Point{addr(0, 1), load(0, 2)}, []int{0, 1}, []int{1, -1, -1}},
		{"a load of none", 3, []api.Point{addr(0, 1), addr(2, 0), load(2, 0)}, []int{0, 1, 2}, []int{1, -1, -1}},
		{"a load of itself", 3, []api.Point{addr(0, 1), addr(1, 2), load(0, 0)}, []int{0, 1, 2}, []int{2, 2, -1}},
		{"a load along itself", 2, []api.Point{addr(0, 0), load(1, 0)}, []int{0, 1}, []int{0, 0}},
		{"a store", 4, []api.Point{addr(0, 1), addr(2, 3), store(0, 2)}, []int{0, 1, 2}, []int{1, 3, 3, -1}},
		{"a store by way of nothing", 4, []api.Point{addr(1, 1), addr(2, 3), store(0, 2)}, []int{0, 1, 2}, []int{-1, 1, 3, -1}},
		{"a store of none", 4, []api.Point{addr(0, 1), addr(1, 3), store(0, 2)}, []int{0, 1, 2}, []int{1, -1, -1, -1}},
		{"a store of itself", 2, []api.Point{addr(0, 1), store(0, 0)}, []int{0, 1}, []int{1, 1}},
		{"a store into itself", 3, []api.Point{addr(0, 0), addr(1, 2), store(0, 1)}, []int{0, 1, 2}, []int{2, 2, -1}},
		{"a store of none into itself", 2, []api.Point{addr(0, 0), store(0, 1)}, []int{0, 1}, []int{-1, -1}},
		{"a store, again and again", 3, []api.Point{addr(0, 0), store(0, 1), addr(1, 2)}, []int{0, 2, 1, 1, 1}, []int{2, 2, 2}},
		{"most statements", 8, slices.Repeat([]api.Point{addr(0, 1), addr(0, 2)}, 6), []int{11, 10}, []int{1, -1, -1, -1, -1, -1, -1, -1}},
		{"the longest script", 2, []api.Point{addr(0, 0), addr(0, 1)}, append(make([]int, api.MaxTurns-1), 1), []int{1, -1}},
	} {
		checkRun(t, c.name, c.vars, c.l, c.script, c.want, api.OK)
		if to := asList(c.vars, behind(c.l, c.script)); !slices.Equal(to, c.want) {
			t.Errorf("%s: the definition yields %v, want %v", c.name, to, c.want)
		}
	}
}

// V2: statements whose sets are easily seen.
func TestSets(t *testing.T) {
	for _, c := range []struct {
		name           string
		vars           int
		l              []api.Point
		within, joined []uint32
	}{
		{"nothing", 1, nil, []uint32{0}, []uint32{0}},
		{"nothing of most variables", 8, []api.Point{}, make([]uint32, 8), make([]uint32, 8)},
		{"the document's example", 3, []api.Point{addr(0, 2), same(1, 0)}, []uint32{4, 4, 0}, []uint32{4, 4, 0}},
		{"to itself", 1, []api.Point{addr(0, 0)}, []uint32{1}, []uint32{1}},
		{"to the last variable", 8, []api.Point{addr(7, 7)}, []uint32{0, 0, 0, 0, 0, 0, 0, 128}, []uint32{0, 0, 0, 0, 0, 0, 0, 128}},
		{"to two variables", 3, []api.Point{addr(0, 1), addr(0, 2)}, []uint32{6, 0, 0}, []uint32{6, 0, 0}},
		{"to one of two joined variables", 4, []api.Point{addr(0, 1), addr(0, 2), addr(3, 1)}, []uint32{6, 0, 0, 2}, []uint32{6, 0, 0, 6}},
		{"to joined variables that point on", 5, []api.Point{addr(0, 1), addr(1, 2), addr(0, 3), addr(3, 4)},
			[]uint32{10, 4, 0, 16, 0}, []uint32{10, 20, 0, 20, 0}},
		{"one of two joined variables points on", 4, []api.Point{addr(0, 1), addr(0, 2), addr(2, 3)}, []uint32{6, 0, 8, 0}, []uint32{6, 8, 8, 0}},
		{"to itself and on", 2, []api.Point{addr(0, 0), addr(0, 1)}, []uint32{3, 0}, []uint32{3, 3}},
		{"a circle", 2, []api.Point{addr(0, 1), addr(1, 0)}, []uint32{2, 1}, []uint32{2, 1}},
		{"a joined circle", 2, []api.Point{addr(0, 1), addr(1, 0), addr(0, 0)}, []uint32{3, 1}, []uint32{3, 3}},
		{"a circle that falls together", 3, []api.Point{addr(0, 1), addr(1, 2), addr(2, 0), addr(0, 2)}, []uint32{6, 4, 1}, []uint32{7, 7, 7}},
		{"copies of none", 3, []api.Point{same(0, 1), same(1, 2)}, []uint32{0, 0, 0}, []uint32{0, 0, 0}},
		{"a copy of two", 4, []api.Point{addr(0, 2), addr(1, 3), same(1, 0)}, []uint32{4, 12, 0, 0}, []uint32{12, 12, 0, 0}},
		{"a copy the wrong way", 3, []api.Point{addr(0, 2), same(0, 1)}, []uint32{4, 0, 0}, []uint32{4, 4, 0}},
		{"a load", 4, []api.Point{addr(0, 1), addr(1, 2), load(3, 0)}, []uint32{2, 4, 0, 4}, []uint32{2, 4, 0, 4}},
		{"a load of two", 6, []api.Point{addr(0, 1), addr(0, 2), addr(1, 3), addr(2, 4), load(5, 0)},
			[]uint32{6, 8, 16, 0, 0, 24}, []uint32{6, 24, 24, 0, 0, 24}},
		{"a load by way of nothing", 3, []api.Point{addr(0, 1), load(0, 2), load(2, 1)}, []uint32{2, 0, 0}, []uint32{2, 0, 0}},
		{"a load of none", 3, []api.Point{addr(0, 1), load(2, 0)}, []uint32{2, 0, 0}, []uint32{2, 0, 0}},
		{"a load the wrong way", 4, []api.Point{addr(0, 1), addr(3, 2), load(3, 0)}, []uint32{2, 0, 0, 4}, []uint32{2, 4, 0, 4}},
		{"a load of itself", 3, []api.Point{addr(0, 1), addr(1, 2), load(0, 0)}, []uint32{6, 4, 0}, []uint32{6, 6, 6}},
		{"a store", 4, []api.Point{addr(0, 1), addr(2, 3), store(0, 2)}, []uint32{2, 8, 8, 0}, []uint32{2, 8, 8, 0}},
		{"a store into two", 5, []api.Point{addr(0, 1), addr(0, 2), addr(3, 4), store(0, 3)}, []uint32{6, 16, 16, 16, 0}, []uint32{6, 16, 16, 16, 0}},
		{"a store by way of nothing", 4, []api.Point{addr(1, 1), addr(2, 3), store(0, 2)}, []uint32{0, 2, 8, 0}, []uint32{0, 2, 8, 0}},
		{"a store of none", 3, []api.Point{addr(0, 1), store(0, 2)}, []uint32{2, 0, 0}, []uint32{2, 0, 0}},
		{"a store the wrong way", 4, []api.Point{addr(0, 1), addr(1, 3), store(0, 2)}, []uint32{2, 8, 0, 0}, []uint32{2, 8, 8, 0}},
		{"a store into itself", 3, []api.Point{addr(0, 0), store(0, 1), addr(1, 2)}, []uint32{5, 4, 4}, []uint32{5, 5, 5}},
		{"a store of what it is stored into", 2, []api.Point{addr(0, 1), store(0, 0)}, []uint32{2, 2}, []uint32{2, 2}},
		{"copies against their order", 8, []api.Point{same(7, 6), same(6, 5), same(5, 4), same(4, 3), same(3, 2), same(2, 1), same(1, 0), addr(0, 7)},
			slices.Repeat([]uint32{128}, 8), slices.Repeat([]uint32{128}, 8)},
		{"loads against their order", 5, []api.Point{load(4, 3), load(3, 2), addr(2, 1), addr(1, 0), addr(0, 0)},
			[]uint32{1, 1, 2, 1, 1}, []uint32{1, 1, 2, 1, 1}},
		{"what is stored is loaded", 5, []api.Point{load(4, 0), store(0, 2), addr(2, 3), addr(0, 1)},
			[]uint32{2, 8, 8, 0, 8}, []uint32{2, 8, 8, 0, 8}},
		{"most statements", 8, []api.Point{
			addr(0, 1), addr(0, 2), addr(0, 3), addr(4, 4), addr(4, 5), addr(6, 7),
			same(7, 6), same(6, 6), load(3, 7), store(6, 0), store(1, 6), load(2, 4)},
			[]uint32{14, 0, 48, 190, 48, 0, 128, 142}, slices.Repeat([]uint32{190}, 8)},
	} {
		checkSets(t, c.name, c.vars, c.l, c.within, c.joined, api.OK)
	}
}

// V2: all short lists of statements. The sets of Within are compared with all choices of sets that have the properties.
func TestShortLists(t *testing.T) {
	for _, size := range [][2]int{{1, 6}, {2, 4}, {3, 3}} {
		vars, most := size[0], size[1]
		choices := allSets(vars)
		for l := range sample.AllLists(statements(vars), most) {
			within, joined := inclusions(vars, l), unifications(vars, l)
			checkSets(t, "definition", vars, l, within, joined, api.OK)
			if least := common(vars, l, choices); !obeysAll(within, l) || !slices.Equal(within, least) {
				t.Fatalf("Within(%d, %v) = %v, want %v", vars, l, within, least)
			}
		}
	}
}

// V1, V2: all short scripts of all short lists of statements.
func TestShortScripts(t *testing.T) {
	for _, size := range [][3]int{{1, 4, 4}, {2, 3, 5}, {3, 2, 6}} {
		vars, most, turns := size[0], size[1], size[2]
		for l := range sample.AllLists(statements(vars), most) {
			if len(l) < most {
				continue
			}
			within, joined := inclusions(vars, l), unifications(vars, l)
			for script := range sample.Lists(turns, most) {
				checkTargets(t, vars, l, script, within, joined)
			}
		}
	}
}

// V1, V2: longer lists of statements over few variables or many, by a fixed rule, with many scripts.
func TestLongLists(t *testing.T) {
	pick := sample.Numbers()
	found, more := 0, 0
	for vars := 1; vars <= api.MaxNodes; vars++ {
		for range 1500 {
			l := anyList(pick, vars, pick(api.MaxPoint+1))
			within, joined := inclusions(vars, l), unifications(vars, l)
			checkSets(t, "definition", vars, l, within, joined, api.OK)
			if !obeysAll(within, l) {
				t.Fatalf("Within(%d, %v) = %v does not have the properties", vars, l, within)
			}
			if !slices.Equal(within, joined) {
				more++
			}
			if len(l) == 0 {
				continue
			}
			for _, turns := range []int{pick(8), pick(30), pick(api.MaxTurns + 1)} {
				script := make([]int, turns)
				for i := range script {
					script[i] = pick(len(l))
				}
				found += checkTargets(t, vars, l, script, within, joined)
			}
		}
	}
	if found < 20000 || more < 4000 {
		t.Errorf("only %d variables pointed to one, and only %d results of Joined were less precise", found, more)
	}
}

// anyList lists so many statements, most of which let variables point to something.
func anyList(pick func(int) int, vars, count int) []api.Point {
	var l []api.Point
	for range count {
		kind := []int{api.PAddr, api.PAddr, api.PAddr, api.PCopy, api.PLoad, api.PStore}[pick(6)]
		l = append(l, api.Point{Kind: kind, To: pick(vars), From: pick(vars)})
	}
	return l
}

// P3: statements and scripts are neither changed nor kept, and what is beyond their lists does not matter.
func TestMemory(t *testing.T) {
	allStatements := []api.Point{addr(0, 1), addr(1, 2), load(2, 0), store(0, 0), {Kind: 99, To: 99, From: 99}, addr(1, 0)}
	allTurns := []int{0, 1, 2, 99, 0}
	statementsBefore, turnsBefore := slices.Clone(allStatements), slices.Clone(allTurns)
	for range 2 {
		for count := range 5 {
			l, script := allStatements[:count], allTurns[:min(count, 3)]
			to, _ := point.Run(3, l, script)
			overwrite(to, 1)
			within, _ := point.Within(3, l)
			overwrite(within, 7)
			joined, _ := point.Joined(3, l)
			overwrite(joined, 7)
			checkRun(t, "memory", 3, l, script, asList(3, behind(l, script)), api.OK)
			checkSets(t, "memory", 3, l, inclusions(3, l), unifications(3, l), api.OK)
		}
	}
	if !slices.Equal(allStatements, statementsBefore) || !slices.Equal(allTurns, turnsBefore) {
		t.Errorf("the arguments changed: %v, %v", allStatements, allTurns)
	}
}

// overwrite puts a value everywhere into the memory of a list.
func overwrite[E any](list []E, with E) {
	for i := range list[:cap(list)] {
		list[:cap(list)][i] = with
	}
}

// checkRun compares Run with what is expected.
func checkRun(t *testing.T, name string, vars int, l []api.Point, script, want []int, wrong api.Errno) {
	t.Helper()
	if to, e := point.Run(vars, l, script); !slices.Equal(to, want) || e != wrong {
		t.Fatalf("%s: Run(%d, %v, %v) = %v, %v, want %v, %v", name, vars, l, script, to, e, want, wrong)
	}
}

// checkSets compares both analyses with what is expected.
func checkSets(t *testing.T, name string, vars int, l []api.Point, within, joined []uint32, wrong api.Errno) {
	t.Helper()
	if s, e := point.Within(vars, l); !slices.Equal(s, within) || e != wrong {
		t.Fatalf("%s: Within(%d, %v) = %b, %v, want %b, %v", name, vars, l, s, e, within, wrong)
	}
	if s, e := point.Joined(vars, l); !slices.Equal(s, joined) || e != wrong {
		t.Fatalf("%s: Joined(%d, %v) = %b, %v, want %b, %v", name, vars, l, s, e, joined, wrong)
	}
}

// checkTargets compares Run with the definition, checks that what it finds is in the sets of both analyses, the first of which are parts of the others, and returns the number of the variables that point to one.
func checkTargets(t *testing.T, vars int, l []api.Point, script []int, within, joined []uint32) int {
	t.Helper()
	to := behind(l, script)
	checkRun(t, "definition", vars, l, script, asList(vars, to), api.OK)
	for v, target := range to {
		if !has(within[v], target) {
			t.Fatalf("Run(%d, %v, %v): %d points to %d, which is not in %b", vars, l, script, v, target, within[v])
		}
	}
	for v, set := range within {
		if !covers(joined[v], set) {
			t.Fatalf("Joined(%d, %v)[%d] = %b, but Within yields %b", vars, l, v, joined[v], set)
		}
	}
	return len(to)
}
