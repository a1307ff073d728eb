package tile_test

import (
	"math"
	"slices"
	"testing"

	"codemason/api"
	"codemason/sample"
	"codemason/tile"
)

// The tests write terms with these.
var num, variable, op = sample.Num, sample.Var, sample.Op

// checkBoth compares both functions with what is expected.
func checkBoth(t *testing.T, name string, vars int, l []api.Term, tiles []api.Tile, want int, wrong api.Errno) {
	t.Helper()
	if k, e := tile.Cost(vars, l, tiles); k != want || e != wrong {
		t.Fatalf("%s: Cost(%d, %v, %v) = %d, %v, want %d, %v", name, vars, l, tiles, k, e, want, wrong)
	}
	cover, e := tile.Cover(vars, l, tiles)
	if e != wrong {
		t.Fatalf("%s: Cover(%d, %v, %v) = %v, %v, want %v", name, vars, l, tiles, cover, e, wrong)
	}
	if wrong != api.OK {
		if len(cover) != 0 {
			t.Fatalf("%s: Cover(%d, %v, %v) = %v, %v", name, vars, l, tiles, cover, e)
		}
		return
	}
	if !isCover(l, tiles, cover) || price(tiles, cover) != want {
		t.Fatalf("%s: Cover(%d, %v, %v) = %v, want a cover of cost %d", name, vars, l, tiles, cover, want)
	}
}

// sum is the tree x + y of the document's example.
func sum() []api.Term { return []api.Term{variable(0), variable(1), op(api.OAdd, 0, 1)} }

// W1, W2: lists that are invalid or not trees, whatever the tiles are.
func TestInvalidTrees(t *testing.T) {
	wrong := api.Tile{Op: 99, Left: 99, Right: 99, Cost: -1}
	for _, c := range sample.BadTrees() {
		for _, tiles := range [][]api.Tile{nil, oneEach(1), {wrong}, slices.Repeat([]api.Tile{wrong}, api.MaxTiles+1)} {
			checkBoth(t, c.Name, c.Vars, c.List, tiles, 0, c.Want)
		}
	}
}

// W1, W2: too many tiles, which count before all that is wrong in a tile.
func TestTooManyTiles(t *testing.T) {
	for _, each := range []api.Tile{{Op: api.OVar}, {Op: api.OLess, Left: api.OVar}, {}, {Op: 99}, {Op: api.ONum, Left: 1}, {Op: api.OVar, Cost: -1}} {
		for _, count := range []int{api.MaxTiles + 1, 2 * api.MaxTiles, 1000} {
			checkBoth(t, "too many tiles", 2, sum(), slices.Repeat([]api.Tile{each}, count), 0, api.ErrLarge)
		}
	}
	most := append(oneEach(1), make([]api.Tile, api.MaxTiles-api.OLess)...)
	checkBoth(t, "most tiles, some of them wrong", 2, sum(), most, 0, api.ErrKind)
}

// badTile is a tile that is invalid.
type badTile struct {
	name string
	tile api.Tile
	want api.Errno
}

// badTiles lists invalid tiles, among them such with several errors.
func badTiles() []badTile {
	bad := []badTile{
		{"zero", api.Tile{}, api.ErrKind},
		{"kind before form", api.Tile{Op: api.ONum, Left: 7}, api.ErrKind},
		{"kind of one side before form of the other one", api.Tile{Op: api.OVar, Left: api.ONum, Right: -1}, api.ErrKind},
		{"kind before range", api.Tile{Op: 7, Cost: -1}, api.ErrKind},
		{"kind of Left before range", api.Tile{Op: api.OAdd, Left: 7, Cost: 100}, api.ErrKind},
		{"kind of Right before range", api.Tile{Op: api.OAdd, Right: 7, Cost: 100}, api.ErrKind},
		{"form before range", api.Tile{Op: api.ONum, Left: api.ONum, Cost: -1}, api.ErrForm},
		{"form of Right before range", api.Tile{Op: api.OVar, Right: api.OLess, Cost: 100}, api.ErrForm},
	}
	unknown := []int{math.MinInt, -1, api.OLess + 1, 99, math.MaxInt}
	for _, kind := range append(unknown, 0) {
		bad = append(bad, badTile{"Op", api.Tile{Op: kind, Left: api.OVar}, api.ErrKind})
	}
	for kind := api.ONum; kind <= api.OLess; kind++ {
		for _, side := range unknown {
			bad = append(bad,
				badTile{"Left", api.Tile{Op: kind, Left: side}, api.ErrKind},
				badTile{"Right", api.Tile{Op: kind, Right: side}, api.ErrKind},
				badTile{"Left with a valid Right", api.Tile{Op: kind, Left: side, Right: api.ONum}, api.ErrKind},
				badTile{"Right with a valid Left", api.Tile{Op: kind, Left: api.OVar, Right: side}, api.ErrKind})
		}
		for _, leaf := range []int{api.ONum, api.OVar} {
			bad = append(bad,
				badTile{"Left of a leaf", api.Tile{Op: leaf, Left: kind}, api.ErrForm},
				badTile{"Right of a leaf", api.Tile{Op: leaf, Right: kind}, api.ErrForm},
				badTile{"Left and Right of a leaf", api.Tile{Op: leaf, Left: kind, Right: kind}, api.ErrForm})
		}
		for _, cost := range sample.Outside(api.MaxCost + 1) {
			bad = append(bad, badTile{"Cost", api.Tile{Op: kind, Cost: cost}, api.ErrRange})
			if kind >= api.OAdd {
				bad = append(bad, badTile{"Cost with sides", api.Tile{Op: kind, Left: kind, Right: api.ONum, Cost: cost}, api.ErrRange})
			}
		}
	}
	return bad
}

// W1, W2: an invalid tile at any place, whether it is needed or not, and whether there is a cover without it or not.
func TestInvalidTiles(t *testing.T) {
	for _, c := range badTiles() {
		checkBoth(t, c.name, 2, sum(), []api.Tile{c.tile}, 0, c.want)
		for _, valid := range [][]api.Tile{oneEach(1), slices.Repeat([]api.Tile{{Op: api.OLess}}, api.MaxTiles)} {
			for place := range valid {
				tiles := slices.Clone(valid)
				tiles[place] = c.tile
				checkBoth(t, c.name, 2, sum(), tiles, 0, c.want)
			}
		}
	}
	kind, form, wide := api.Tile{Op: 7}, api.Tile{Op: api.ONum, Right: api.OVar}, api.Tile{Op: api.OVar, Cost: 100}
	checkBoth(t, "kind is first", 2, sum(), []api.Tile{{Op: api.OVar}, kind, form, wide}, 0, api.ErrKind)
	checkBoth(t, "form is first", 2, sum(), []api.Tile{{Op: api.OVar}, form, wide, kind}, 0, api.ErrForm)
	checkBoth(t, "range is first", 2, sum(), []api.Tile{{Op: api.OVar}, wide, kind, form}, 0, api.ErrRange)
}

// W1, W2: trees without a cover.
func TestNoCover(t *testing.T) {
	deep := []api.Term{num(1), variable(0), op(api.OMul, 0, 1), num(2), op(api.OSub, 2, 3)}
	for _, c := range []struct {
		name  string
		l     []api.Term
		tiles []api.Tile
	}{
		{"no tiles", sum(), nil},
		{"no tiles, and one term", []api.Term{num(1)}, []api.Tile{}},
		{"a variable is not a number", []api.Term{variable(0)}, []api.Tile{{Op: api.ONum}}},
		{"a number is not a variable", []api.Term{num(0)}, []api.Tile{{Op: api.OVar}}},
		{"nothing for the last term", sum(), []api.Tile{{Op: api.OVar}, {Op: api.OSub}, {Op: api.ONum}}},
		{"nothing for the leaves", sum(), []api.Tile{{Op: api.OAdd}}},
		{"nothing for one leaf", sum(), []api.Tile{{Op: api.OAdd, Left: api.OVar}, {Op: api.OAdd, Right: api.OVar}}},
		{"Left does not match", sum(), []api.Tile{{Op: api.OVar}, {Op: api.OAdd, Left: api.ONum}}},
		{"Right does not match", sum(), []api.Tile{{Op: api.OVar}, {Op: api.OAdd, Right: api.OAdd}}},
		{"only Left matches", sum(), []api.Tile{{Op: api.OVar}, {Op: api.OAdd, Left: api.OVar, Right: api.ONum}}},
		{"only Right matches", sum(), []api.Tile{{Op: api.OVar}, {Op: api.OAdd, Left: api.ONum, Right: api.OVar}}},
		{"the sides are exchanged", deep, []api.Tile{
			{Op: api.ONum}, {Op: api.OVar}, {Op: api.OMul}, {Op: api.OSub, Left: api.ONum, Right: api.OMul}}},
		{"nothing for an operand of a covered term", deep, []api.Tile{
			{Op: api.ONum}, {Op: api.OMul}, {Op: api.OSub, Left: api.OMul, Right: api.ONum}}},
		{"a tile that matches what is never a leaf", deep, []api.Tile{
			{Op: api.OMul, Left: api.ONum, Right: api.OVar}, {Op: api.OSub, Left: api.OMul, Right: api.ONum}}},
		{"nothing far below", deep, []api.Tile{{Op: api.ONum}, {Op: api.OMul}, {Op: api.OSub}}},
	} {
		checkBoth(t, c.name, 2, c.l, c.tiles, 0, api.ErrNone)
	}
}

// chain is a tree in which each of so many operations has the one before it on one side, and a variable on the other one.
func chain(operations int, left bool) []api.Term {
	l := []api.Term{num(1)}
	for range operations {
		last := len(l) - 1
		l = append(l, variable(0))
		if left {
			l = append(l, op(api.OSub, last, last+1))
		} else {
			l = append(l, op(api.OSub, last+1, last))
		}
	}
	return l
}

// W1, W2: trees whose only cover of minimal cost is easily seen.
func TestCovers(t *testing.T) {
	product := []api.Term{
		variable(0), num(2), op(api.OMul, 0, 1), variable(1), num(4), op(api.OMul, 3, 4), op(api.OAdd, 2, 5)}
	mixed := []api.Term{
		num(9), variable(0), variable(1), op(api.OLess, 2, 0), op(api.OSub, 1, 3)}
	base := oneEach(2)
	with := func(more ...api.Tile) []api.Tile { return append(slices.Clone(base), more...) }
	for _, c := range []struct {
		name  string
		l     []api.Term
		tiles []api.Tile
		want  []int
		cost  int
	}{
		{"the document's example", sum(), []api.Tile{
			{Op: api.OVar, Cost: 1}, {Op: api.OAdd, Cost: 1}, {Op: api.OAdd, Right: api.OVar, Cost: 1}}, []int{0, -1, 2}, 2},
		{"a number", []api.Term{num(255)}, with(), []int{0}, 2},
		{"a variable", []api.Term{variable(1)}, with(), []int{1}, 2},
		{"no cost", []api.Term{num(0)}, []api.Tile{{Op: api.OVar}, {Op: api.ONum}}, []int{1}, 0},
		{"the highest cost", []api.Term{num(0)}, []api.Tile{{Op: api.ONum, Cost: 99}}, []int{0}, 99},
		{"the cheapest of several", []api.Term{num(0)}, []api.Tile{
			{Op: api.ONum, Cost: 99}, {Op: api.ONum, Cost: 1}, {Op: api.OVar}, {Op: api.ONum, Cost: 2}}, []int{1}, 1},
		{"only tiles for one term", product, with(), []int{1, 0, 4, 1, 0, 4, 2}, 14},
		{"both sides", product, with(api.Tile{Op: api.OAdd, Left: api.OMul, Right: api.OMul, Cost: 5}), []int{1, 0, -1, 1, 0, -1, 6}, 13},
		{"both sides are too dear", product, with(api.Tile{Op: api.OAdd, Left: api.OMul, Right: api.OMul, Cost: 7}), []int{1, 0, 4, 1, 0, 4, 2}, 14},
		{"the left side", product, with(api.Tile{Op: api.OAdd, Left: api.OMul, Cost: 3}), []int{1, 0, -1, 1, 0, 4, 6}, 13},
		{"the right side", product, with(api.Tile{Op: api.OAdd, Right: api.OMul, Cost: 3}), []int{1, 0, 4, 1, 0, -1, 6}, 13},
		{"tiles below", product, with(api.Tile{Op: api.OMul, Right: api.ONum, Cost: 3}), []int{1, -1, 6, 1, -1, 6, 2}, 12},
		{"a large tile is cheap, but not what is below it", product, with(
			api.Tile{Op: api.OAdd, Left: api.OMul, Right: api.OMul, Cost: 0}, api.Tile{Op: api.OMul, Left: api.OVar, Right: api.ONum, Cost: 0}),
			[]int{-1, -1, 7, -1, -1, 7, 2}, 2},
		{"a large tile is dear, but what is below it is cheap", product, []api.Tile{
			{Op: api.ONum}, {Op: api.OVar}, {Op: api.OMul, Cost: 40}, {Op: api.OAdd}, {Op: api.OAdd, Left: api.OMul, Right: api.OMul, Cost: 79}},
			[]int{1, 0, -1, 1, 0, -1, 4}, 79},
		{"terms in another order", mixed, with(api.Tile{Op: api.OSub, Right: api.OLess, Cost: 1}), []int{0, 1, 1, -1, 6}, 7},
		{"no tile for what is covered", mixed, []api.Tile{
			{Op: api.OSub, Left: api.OVar, Right: api.OLess, Cost: 3}, {Op: api.OVar, Cost: 4}, {Op: api.ONum, Cost: 5}}, []int{2, -1, 1, -1, 0}, 12},
		{"the whole tree", sum(), with(api.Tile{Op: api.OAdd, Left: api.OVar, Right: api.OVar, Cost: 5}), []int{-1, -1, 6}, 5},
		{"every second operation", chain(3, true), []api.Tile{
			{Op: api.ONum, Cost: 1}, {Op: api.OVar, Cost: 1}, {Op: api.OSub, Cost: 10}, {Op: api.OSub, Left: api.OSub, Cost: 1}, {Op: api.OSub, Left: api.ONum, Cost: 5}},
			[]int{-1, 1, 4, 1, -1, 1, 3}, 9},
		{"a tile of another place is needed below", chain(2, false), []api.Tile{
			{Op: api.OSub, Left: api.OVar, Cost: 2}, {Op: api.OSub, Right: api.OSub, Cost: 0}, {Op: api.ONum, Cost: 3}}, []int{2, -1, 0, -1, 0}, 7},
	} {
		checkBoth(t, c.name, 2, c.l, c.tiles, c.cost, api.OK)
		if cover, e := tile.Cover(2, c.l, c.tiles); e != api.OK || !slices.Equal(cover, c.want) {
			t.Errorf("%s: %v, %v, want %v", c.name, cover, e, c.want)
		}
	}
}

// W1, W2: the largest trees with the highest costs, and equal tiles.
func TestLimits(t *testing.T) {
	operations := (api.MaxTerms - 1) / 2
	for _, left := range []bool{false, true} {
		l := chain(operations, left)
		checkBoth(t, "highest costs", 1, l, oneEach(api.MaxCost), len(l)*api.MaxCost, api.OK)
		checkBoth(t, "no costs", 1, l, oneEach(0), 0, api.OK)
		long := []api.Tile{{Op: api.ONum, Cost: 1}, {Op: api.OSub, Left: api.OVar, Cost: 1}, {Op: api.OSub, Right: api.OVar, Cost: 1}}
		checkBoth(t, "all variables are covered", 1, l, long, operations+1, api.OK)
		same := []api.Tile{{Op: api.ONum, Cost: 7}, {Op: api.OVar, Cost: 7}, {Op: api.OSub, Cost: 7}}
		checkBoth(t, "equal tiles", 1, l, slices.Repeat(same, api.MaxTiles/3), 7*len(l), api.OK)
	}
}

// P3: terms and tiles are neither changed nor kept, and what is beyond their lists does not matter.
func TestMemory(t *testing.T) {
	allTerms := append(sum(), num(3), op(api.OMul, 2, 3), op(99, 99, 99), num(1))
	allTiles := append(oneEach(2), api.Tile{Op: api.OAdd, Right: api.OVar, Cost: 1}, api.Tile{Op: 99}, api.Tile{Op: api.OMul})
	termsBefore, tilesBefore := slices.Clone(allTerms), slices.Clone(allTiles)
	for range 2 {
		for _, terms := range []int{1, 3, 5} {
			for count := range 8 {
				l, tiles := allTerms[:terms], allTiles[:count]
				cover, _ := tile.Cover(2, l, tiles)
				for i := range cover[:cap(cover)] {
					cover[:cap(cover)][i] = 99
				}
				cost, e := least(l, tiles)
				checkBoth(t, "memory", 2, l, tiles, cost, e)
			}
		}
	}
	if !slices.Equal(allTerms, termsBefore) || !slices.Equal(allTiles, tilesBefore) {
		t.Errorf("the arguments changed: %v, %v", allTerms, allTiles)
	}
}
