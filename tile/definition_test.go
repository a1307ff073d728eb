package tile_test

import (
	"slices"
	"testing"

	"codemason/api"
	"codemason/need"
	"codemason/sample"
)

// fits reports whether a tile matches term i.
func fits(l []api.Term, i int, tile api.Tile) bool {
	t := l[i]
	if t.Op == api.ONum || t.Op == api.OVar {
		return t.Op == tile.Op
	}
	a := tile.Left == 0 || tile.Left == l[t.A].Op
	b := tile.Right == 0 || tile.Right == l[t.B].Op
	return t.Op == tile.Op && a && b
}

// operands is the set of the terms A and B of term i.
func operands(l []api.Term, i int) uint32 {
	if t := l[i]; t.Op != api.ONum && t.Op != api.OVar {
		return 1<<t.A | 1<<t.B
	}
	return 0
}

// leafSet is the set of the leaves of a tile that matches term i: the operands of it and of what the tile covers, without what it covers.
func leafSet(l []api.Term, i int, tile api.Tile) uint32 {
	var covered uint32
	if tile.Left != 0 {
		covered |= 1 << l[i].A
	}
	if tile.Right != 0 {
		covered |= 1 << l[i].B
	}
	below := operands(l, i)
	for k := range l {
		if covered>>k&1 != 0 {
			below |= operands(l, k)
		}
	}
	return below &^ covered
}

// isCover reports whether a list assigns a matching tile to the last term and to every leaf of an assigned tile, and to no other terms.
func isCover(l []api.Term, tiles []api.Tile, cover []int) bool {
	if len(cover) != len(l) {
		return false
	}
	asked, assigned := uint32(1)<<(len(l)-1), uint32(0)
	for i, n := range cover {
		if n == -1 {
			continue
		}
		if n < 0 || n >= len(tiles) || !fits(l, i, tiles[n]) {
			return false
		}
		asked |= leafSet(l, i, tiles[n])
		assigned |= 1 << i
	}
	return asked == assigned
}

// price is the sum of the costs of the assigned tiles.
func price(tiles []api.Tile, cover []int) int {
	sum := 0
	for _, n := range cover {
		if n != -1 {
			sum += tiles[n].Cost
		}
	}
	return sum
}

// least is the minimal cost of a cover. It goes through the sets of the terms that are still to get a tile, the last one of which gets one next.
func least(l []api.Term, tiles []api.Tile) (int, api.Errno) {
	const far = 1 << 30
	cheapest := slices.Repeat([]int{far}, 1<<len(l))
	cheapest[1<<(len(l)-1)] = 0
	last := len(l) - 1
	for set := len(cheapest) - 1; set > 0; set-- {
		if set < 1<<last {
			last--
		}
		if cheapest[set] == far {
			continue
		}
		for _, tile := range tiles {
			if fits(l, last, tile) {
				rest := set&^(1<<last) | int(leafSet(l, last, tile))
				cheapest[rest] = min(cheapest[rest], cheapest[set]+tile.Cost)
			}
		}
	}
	if cheapest[0] == far {
		return 0, api.ErrNone
	}
	return cheapest[0], api.OK
}

// leastOfAll is the minimal cost of a cover, found by trying all lists of tiles.
func leastOfAll(l []api.Term, tiles []api.Tile) (int, api.Errno) {
	found, wrong := 0, api.ErrNone
	cover := make([]int, len(l))
	for list := range sample.Lists(len(l), len(tiles)+1) {
		for i, n := range list {
			cover[i] = n - 1
		}
		if !isCover(l, tiles, cover) {
			continue
		}
		if cost := price(tiles, cover); wrong != api.OK || cost < found {
			found, wrong = cost, api.OK
		}
	}
	return found, wrong
}

// kindsOfTiles lists all tiles that differ in what they match.
func kindsOfTiles() []api.Tile {
	all := []api.Tile{{Op: api.ONum}, {Op: api.OVar}}
	for kind := api.OAdd; kind <= api.OLess; kind++ {
		for left := range api.OLess + 1 {
			for right := range api.OLess + 1 {
				all = append(all, api.Tile{Op: kind, Left: left, Right: right})
			}
		}
	}
	return all
}

// oneEach lists a tile for each operation, which covers nothing else.
func oneEach(cost int) []api.Tile {
	var tiles []api.Tile
	for kind := api.ONum; kind <= api.OLess; kind++ {
		tiles = append(tiles, api.Tile{Op: kind, Cost: cost})
	}
	return tiles
}

// shortTrees lists all trees of at most so many terms with these leaves.
func shortTrees(leaves []api.Term, most int) [][]api.Term {
	var trees [][]api.Term
	for l := range sample.ShortLists(leaves, most) {
		if _, e := need.Need(api.MaxVars, l); e == api.OK {
			trees = append(trees, slices.Clone(l))
		}
	}
	return trees
}

// W1, W2: all trees of at most five terms, with a tile for each operation and any one that is cheaper than one, two or three of these.
func TestShortTrees(t *testing.T) {
	trees := shortTrees([]api.Term{sample.Num(200), sample.Var(5)}, 5)
	if len(trees) < 2000 {
		t.Fatalf("only %d trees", len(trees))
	}
	base := oneEach(20)
	base[api.OAdd-1].Cost = 0
	for _, more := range kindsOfTiles() {
		for _, cost := range []int{10, 30, 50} {
			more.Cost = cost
			tiles := append(slices.Clone(base), more)
			for _, l := range trees {
				checkDefinition(t, l, tiles)
			}
		}
	}
}

// W1, W2: the two ways to find the minimal cost agree, so that the one that is used for larger trees is right.
func TestAllCovers(t *testing.T) {
	pick := sample.Numbers()
	found := 0
	for round := range 3000 {
		l := sample.Tree(pick, 1+round%3)
		tiles := someTiles(pick, l, 1+pick(5))
		cost, e := leastOfAll(l, tiles)
		if k, wrong := least(l, tiles); k != cost || wrong != e {
			t.Fatalf("%v with %v: %d, %v, and %d, %v", l, tiles, k, wrong, cost, e)
		}
		checkBoth(t, "all covers", api.MaxVars, l, tiles, cost, e)
		if e == api.OK {
			found++
		}
	}
	if found < 500 || found > 2500 {
		t.Errorf("%d trees have a cover", found)
	}
}

// W1, W2: trees of all shapes in postorder, and trees with terms in any order, by a fixed rule.
func TestTrees(t *testing.T) {
	pick := sample.Numbers()
	found, rounds := 0, 0
	compare := func(l []api.Term) {
		rounds++
		if _, e := checkDefinition(t, l, someTiles(pick, l, pick(api.MaxTiles+1))); e == api.OK {
			found++
		}
		checkDefinition(t, l, append(oneEach(5+pick(40)), someTiles(pick, l, api.MaxTiles-api.OLess)...))
	}
	for leaves := 1; leaves <= 8; leaves++ {
		for range 3 {
			for _, l := range sample.Shapes(pick, leaves) {
				compare(l)
			}
		}
		for range 300 {
			compare(sample.Tree(pick, leaves))
		}
	}
	if found < rounds/10 || found > rounds*9/10 {
		t.Errorf("%d of %d trees have a cover with any tiles", found, rounds)
	}
}

// someTiles lists so many tiles, most of which match some term of a tree.
func someTiles(pick func(int) int, l []api.Term, count int) []api.Tile {
	var tiles []api.Tile
	for range count {
		tile := tileFor(pick, l, pick(len(l)))
		tile.Cost = []int{0, pick(10), pick(api.MaxCost + 1), api.MaxCost}[pick(4)]
		tiles = append(tiles, tile)
	}
	return tiles
}

// tileFor returns a tile with the operation of term i, which most often matches it.
func tileFor(pick func(int) int, l []api.Term, i int) api.Tile {
	t := l[i]
	tile := api.Tile{Op: t.Op}
	if operands(l, i) == 0 {
		return tile
	}
	switch pick(8) {
	case 0:
		tile.Left, tile.Right = pick(api.OLess+1), pick(api.OLess+1)
	case 1, 2:
		tile.Left = l[t.A].Op
	case 3, 4:
		tile.Right = l[t.B].Op
	case 5:
		tile.Left, tile.Right = l[t.A].Op, l[t.B].Op
	}
	return tile
}

// checkDefinition compares both functions with the definition, and returns what it yields.
func checkDefinition(t *testing.T, l []api.Term, tiles []api.Tile) (int, api.Errno) {
	t.Helper()
	cost, e := least(l, tiles)
	checkBoth(t, "definition", api.MaxVars, l, tiles, cost, e)
	return cost, e
}
