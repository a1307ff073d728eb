package jump_test

import (
	"math"
	"slices"
	"testing"

	"codemason/api"
	"codemason/jump"
	"codemason/sample"
)

// code is a piece that is not a jump; what it does not use is set to what is invalid for a jump.
func code(bytes int) api.Piece { return api.Piece{Bytes: bytes, To: sample.Junk} }

// to is a jump to a piece; what it does not use is set to what is invalid for another piece.
func to(piece int) api.Piece { return api.Piece{Bytes: sample.Junk, Jump: true, To: piece} }

// checkSizes compares what Lay returns with these sizes.
func checkSizes(t *testing.T, name string, l []api.Piece, want []int) {
	t.Helper()
	at, size, e := jump.Lay(l)
	if e != api.OK || !slices.Equal(size, want) || !isLaid(at, want) {
		t.Errorf("%s: Lay(%v) = %v, %v, %v, want the sizes %v", name, l, at, size, e, want)
	}
}

// checkError expects an error, and nothing else.
func checkError(t *testing.T, name string, l []api.Piece, want api.Errno) {
	t.Helper()
	if at, size, e := jump.Lay(l); len(at) != 0 || len(size) != 0 || e != want {
		t.Errorf("%s: Lay(%v) = %v, %v, %v, want %v", name, l, at, size, e, want)
	}
}

// checkLeast expects a valid choice with as few long jumps as any.
func checkLeast(t *testing.T, l []api.Piece) {
	t.Helper()
	at, size, e := jump.Lay(l)
	if e != api.OK || !isChoice(l, size) || !isLaid(at, size) {
		t.Fatalf("Lay(%v) = %v, %v, %v", l, at, size, e)
	}
	if fewest := fewestLong(l); longOnes(l, size) != fewest {
		t.Fatalf("Lay(%v) = %v, %v, want %d long jumps", l, at, size, fewest)
	}
}

// X1: too many pieces, which count before all that is wrong in a piece.
func TestTooManyPieces(t *testing.T) {
	for _, each := range []api.Piece{{}, code(1), to(0), to(-1), code(-1), code(math.MaxInt), to(math.MaxInt)} {
		for _, count := range []int{api.MaxPiece + 1, 2 * api.MaxPiece, 1000} {
			checkError(t, "too many pieces", slices.Repeat([]api.Piece{each}, count), api.ErrLarge)
		}
	}
}

// X1: an invalid piece at any place of any number of pieces.
func TestInvalidPieces(t *testing.T) {
	for n := 1; n <= api.MaxPiece; n++ {
		for place := range n {
			for _, others := range []api.Piece{code(0), code(api.MaxBytes), to(0), to(n)} {
				with := func(wrong api.Piece) []api.Piece {
					l := slices.Repeat([]api.Piece{others}, n)
					l[place] = wrong
					return l
				}
				for _, bytes := range sample.Outside(api.MaxBytes + 1) {
					checkError(t, "Bytes", with(code(bytes)), api.ErrRange)
					checkError(t, "Bytes with a valid To", with(api.Piece{Bytes: bytes}), api.ErrRange)
				}
				for _, piece := range sample.Outside(n + 1) {
					checkError(t, "To", with(to(piece)), api.ErrArg)
					checkError(t, "To with valid Bytes", with(api.Piece{Jump: true, To: piece}), api.ErrArg)
				}
			}
		}
	}
}

// X1: of several invalid pieces, the first one counts.
func TestFirstInvalidPiece(t *testing.T) {
	checkError(t, "range is first", []api.Piece{code(1), code(-1), to(-1)}, api.ErrRange)
	checkError(t, "range is first, and arg is last", []api.Piece{code(201), to(0), to(4)}, api.ErrRange)
	checkError(t, "arg is first", []api.Piece{to(3), to(4), code(-1)}, api.ErrArg)
	checkError(t, "arg is first, and range is last", []api.Piece{to(-1), code(200), code(201)}, api.ErrArg)
}

// X1: pieces without jumps.
func TestCode(t *testing.T) {
	checkSizes(t, "nil", nil, nil)
	checkSizes(t, "empty", []api.Piece{}, nil)
	checkSizes(t, "no bytes", []api.Piece{code(0)}, []int{0})
	checkSizes(t, "the document's greatest piece", []api.Piece{code(api.MaxBytes)}, []int{200})
	checkSizes(t, "several", []api.Piece{code(3), code(0), code(51), code(2), code(4)}, []int{3, 0, 51, 2, 4})
	checkSizes(t, "all that is allowed", slices.Repeat([]api.Piece{code(200)}, api.MaxPiece), slices.Repeat([]int{200}, api.MaxPiece))
}

// X1: single jumps, near the greatest distance of short ones.
func TestOneJump(t *testing.T) {
	for _, c := range []struct {
		name string
		l    []api.Piece
		want []int
	}{
		{"the document's example", []api.Piece{to(2), code(100), to(3)}, []int{4, 100, 2}},
		{"to itself", []api.Piece{to(0)}, []int{2}},
		{"to itself between others", []api.Piece{code(200), to(1), code(200)}, []int{200, 2, 200}},
		{"to the end", []api.Piece{to(1)}, []int{2}},
		{"to the next piece", []api.Piece{to(1), code(200)}, []int{2, 200}},
		{"forward over 50", []api.Piece{to(2), code(50)}, []int{2, 50}},
		{"forward over 51", []api.Piece{to(2), code(51)}, []int{4, 51}},
		{"forward over 50 to another piece", []api.Piece{code(9), to(3), code(50), code(99)}, []int{9, 2, 50, 99}},
		{"forward over 51 to another piece", []api.Piece{code(9), to(3), code(51), code(99)}, []int{9, 4, 51, 99}},
		{"forward over several", []api.Piece{to(4), code(20), code(0), code(30), code(1)}, []int{2, 20, 0, 30, 1}},
		{"forward over several, too far", []api.Piece{to(5), code(20), code(0), code(30), code(1)}, []int{4, 20, 0, 30, 1}},
		{"back over 48 and itself", []api.Piece{code(48), to(0)}, []int{48, 2}},
		{"back over 49 and itself", []api.Piece{code(49), to(0)}, []int{49, 4}},
		{"back over 48 to another piece", []api.Piece{code(99), code(48), to(1), code(9)}, []int{99, 48, 2, 9}},
		{"back over 49 to another piece", []api.Piece{code(99), code(49), to(1), code(9)}, []int{99, 49, 4, 9}},
		{"back over several", []api.Piece{code(1), code(20), code(0), code(28), to(1)}, []int{1, 20, 0, 28, 2}},
		{"back over several, too far", []api.Piece{code(1), code(20), code(0), code(28), to(0)}, []int{1, 20, 0, 28, 4}},
		{"as far as possible", append(slices.Repeat([]api.Piece{code(200)}, 9), to(0)), append(slices.Repeat([]int{200}, 9), 4)},
	} {
		checkSizes(t, c.name, c.l, c.want)
	}
}

// X1: jumps that are long only because others are.
func TestJumpsThatPush(t *testing.T) {
	for _, c := range []struct {
		name string
		l    []api.Piece
		want []int
	}{
		{"a short jump on the way", []api.Piece{to(3), to(2), code(48)}, []int{2, 2, 48}},
		{"a long jump on the way", []api.Piece{to(3), to(4), code(48), code(50)}, []int{4, 4, 48, 50}},
		{"a long jump on the way, which does not matter", []api.Piece{to(3), to(4), code(46), code(50)}, []int{2, 4, 46, 50}},
		{"a long jump outside", []api.Piece{to(2), code(50), to(4), code(51)}, []int{2, 50, 4, 51}},
		{"a long jump is the target", []api.Piece{code(100), to(3), code(50), to(0)}, []int{100, 2, 50, 4}},
		{"back over a short jump", []api.Piece{to(3), code(46), to(0), code(5)}, []int{2, 46, 2, 5}},
		{"back over a long jump", []api.Piece{to(4), code(46), to(0), code(5)}, []int{4, 46, 4, 5}},
		// If both were long, neither of them alone could become short.
		{"each would push the other one", []api.Piece{to(4), code(46), to(0), code(2)}, []int{2, 46, 2, 2}},
	} {
		checkSizes(t, c.name, c.l, c.want)
	}
}

// X1: each of five jumps pushes the next one, in both directions and up to the greatest number of pieces.
func TestChains(t *testing.T) {
	for last, size := range map[int]int{2: 2, 3: 4} {
		jumps := slices.Repeat([]int{size}, 5)
		forward := []int{36, 4, 4, 4, last}
		back := []int{last, 4, 4, 4, 34}
		var front, behind []api.Piece
		for i := range 5 {
			front = append(front, to(6+i))
			behind = append(behind, to(i))
		}
		var after, before []api.Piece
		for i := range 5 {
			after = append(after, code(forward[i]))
			before = append(before, code(back[i]))
		}
		checkSizes(t, "forward", slices.Concat(front, after), slices.Concat(jumps, forward))
		checkSizes(t, "back", slices.Concat(before, behind), slices.Concat(back, jumps))
	}
}

// X1: all short lists of pieces with these bytes.
func TestShortLists(t *testing.T) {
	for n := range 6 {
		pieces := []api.Piece{code(0), code(4), code(46), code(48), code(51)}
		for target := range n + 1 {
			pieces = append(pieces, to(target))
		}
		for places := range sample.Lists(n, len(pieces)) {
			l := make([]api.Piece, n)
			for i, p := range places {
				l[i] = pieces[p]
			}
			checkLeast(t, l)
		}
	}
}

// X1: long lists of pieces, some of them with few bytes, so that many jumps are on the verge.
func TestLongLists(t *testing.T) {
	pick := sample.Numbers()
	for range 6000 {
		l := make([]api.Piece, 6+pick(5))
		most := []int{3, 10, 16, 30, api.MaxBytes}[pick(5)]
		jumps := 3 + pick(6)
		for i := range l {
			l[i] = code(pick(most + 1))
			if pick(10) < jumps {
				l[i] = to(pick(len(l) + 1))
			}
		}
		checkLeast(t, l)
	}
}

// P4: what a kind does not use does not matter.
func TestUnusedFields(t *testing.T) {
	for _, junk := range append(sample.Outside(3), 0, 1, 2, 50, 51, api.MaxBytes, api.MaxBytes+1) {
		l := []api.Piece{{Jump: true, To: 2, Bytes: junk}, {Bytes: 51, To: junk}}
		checkSizes(t, "unused fields", l, []int{4, 51})
	}
}

// P3: pieces are neither changed nor kept, what is beyond their list does not matter, and results share no memory.
func TestMemory(t *testing.T) {
	all := []api.Piece{to(2), code(51), to(0), code(0), code(-1), to(99)}
	before := slices.Clone(all)
	for range 2 {
		for n, want := range map[int][]int{2: {4, 51}, 3: {4, 51, 4}, 4: {4, 51, 4, 0}} {
			at, size, _ := jump.Lay(all[:n])
			mark := func(k int) int { return k }
			if sample.Overlap([][]int{at, size}, mark, mark) {
				t.Errorf("the results for %d pieces share memory", n)
			}
			checkSizes(t, "memory", all[:n], want)
		}
	}
	if !slices.Equal(all, before) {
		t.Errorf("the argument changed: %v", all)
	}
}
