package link_test

import (
	"bytes"
	"math"
	"slices"
	"testing"

	"codemason/api"
	"codemason/link"
	"codemason/sample"
)

// pairs lists definitions or relocations, each with a name and an offset.
func pairs(list ...[2]int) [][2]int { return list }

// zeros is an object of so many bytes, which are 0.
func zeros(count int, has, wants [][2]int) api.Object {
	return api.Object{Bytes: make([]byte, count), Has: has, Wants: wants}
}

// checkLink compares what Link returns with what is expected.
func checkLink(t *testing.T, name string, l []api.Object, want []byte, wrong api.Errno) {
	t.Helper()
	if b, e := link.Link(l); !bytes.Equal(b, want) || e != wrong {
		t.Fatalf("%s: Link(%v) = %v, %v, want %v, %v", name, l, b, e, want, wrong)
	}
}

// checkFind compares what Find returns with what is expected.
func checkFind(t *testing.T, name string, l []api.Object, symbol, want int, wrong api.Errno) {
	t.Helper()
	if at, e := link.Find(l, symbol); at != want || e != wrong {
		t.Fatalf("%s: Find(%v, %d) = %v, %v, want %v, %v", name, l, symbol, at, e, want, wrong)
	}
}

// checkNeeds compares what Needs returns with what is expected.
func checkNeeds(t *testing.T, name string, l []api.Object, want uint32, wrong api.Errno) {
	t.Helper()
	if set, e := link.Needs(l); set != want || e != wrong {
		t.Fatalf("%s: Needs(%v) = %b, %v, want %b, %v", name, l, set, e, want, wrong)
	}
}

// checkError expects a common error from all functions, and nothing else.
func checkError(t *testing.T, name string, l []api.Object, want api.Errno) {
	t.Helper()
	checkLink(t, name, l, nil, want)
	checkFind(t, name, l, 7, 0, want)
	checkFind(t, name, l, 12345, 0, want)
	checkNeeds(t, name, l, 0, want)
}

// checkAll compares all functions with the definitions, for these symbols.
func checkAll(t *testing.T, l []api.Object, symbols []int) {
	t.Helper()
	if e := commonError(l); e != api.OK {
		checkError(t, "definition", l, e)
		return
	}
	if isDefined(l) {
		checkLink(t, "definition", l, linked(l), api.OK)
	} else {
		checkLink(t, "definition", l, nil, api.ErrNone)
	}
	for _, symbol := range symbols {
		if _, at := definer(l, symbol); at >= 0 {
			checkFind(t, "definition", l, symbol, at, api.OK)
		} else {
			checkFind(t, "definition", l, symbol, 0, api.ErrNone)
		}
	}
	checkNeeds(t, "definition", l, smallestClosed(l), api.OK)
}

// fullObject is an object with as much of all as is allowed, whose symbols are first and the eleven after it.
func fullObject(first int) api.Object {
	o := zeros(api.MaxBytes, nil, nil)
	for i := range api.MaxPoint {
		o.Has = append(o.Has, [2]int{first + i, api.MaxBytes - i})
		o.Wants = append(o.Wants, [2]int{first + i, 2 * i})
	}
	return o
}

// Y1, Y2: too much of something at any place, which counts before all that is wrong elsewhere.
func TestLarge(t *testing.T) {
	wrong := zeros(2, pairs([2]int{7, 0}, [2]int{7, 3}), pairs([2]int{8, 1}))
	for _, each := range []api.Object{{}, zeros(2, nil, nil), wrong, fullObject(0)} {
		for _, count := range []int{api.MaxObj + 1, 2 * api.MaxObj, 1000} {
			checkError(t, "too many objects", slices.Repeat([]api.Object{each}, count), api.ErrLarge)
		}
	}
	for _, large := range []api.Object{
		zeros(api.MaxBytes+1, nil, nil),
		zeros(1000, pairs([2]int{7, 0}), nil),
		{Has: slices.Repeat(pairs([2]int{7, 0}), api.MaxPoint+1)},
		{Has: slices.Repeat(pairs([2]int{7, -1}), api.MaxPoint+1)},
		zeros(2, slices.Repeat(pairs([2]int{7, 0}), 100), nil),
		{Wants: slices.Repeat(pairs([2]int{7, 0}), api.MaxPoint+1)},
		zeros(2, pairs([2]int{7, 0}), slices.Repeat(pairs([2]int{7, 0}), api.MaxPoint+1)),
		zeros(2, nil, slices.Repeat(pairs([2]int{7, -1}), 100)),
	} {
		for n := 1; n <= api.MaxObj; n++ {
			for place := range n {
				for _, other := range []api.Object{{}, wrong, {Wants: pairs([2]int{9, 0})}} {
					l := slices.Repeat([]api.Object{other}, n)
					l[place] = large
					checkError(t, "a large object", l, api.ErrLarge)
				}
			}
		}
	}
}

// Y1, Y2: a wrong offset in any object, which counts before names that are defined twice or not at all.
func TestWrongOffsets(t *testing.T) {
	twice := zeros(2, pairs([2]int{7, 0}, [2]int{7, 0}), pairs([2]int{99, 0}))
	for count := range 5 {
		var loose []api.Object
		for _, offset := range sample.Outside(count + 1) {
			loose = append(loose,
				zeros(count, pairs([2]int{5, offset}), nil),
				zeros(count, pairs([2]int{5, 0}, [2]int{6, count}, [2]int{4, offset}, [2]int{3, 0}), nil),
				zeros(count, pairs([2]int{5, offset}, [2]int{5, offset}), nil))
		}
		for _, offset := range []int{math.MinInt, -2, -1, count - 1, count, count + 1, math.MaxInt} {
			loose = append(loose,
				zeros(count, nil, pairs([2]int{7, offset})),
				zeros(count, pairs([2]int{5, 0}, [2]int{5, 0}), pairs([2]int{99, offset})))
			if count >= 2 {
				loose = append(loose, zeros(count, nil, pairs([2]int{7, 0}, [2]int{7, count - 2}, [2]int{7, offset}, [2]int{7, 0})))
			}
		}
		for _, o := range loose {
			for n := 1; n <= api.MaxObj; n++ {
				for place := range n {
					l := slices.Repeat([]api.Object{twice}, n)
					l[place] = o
					checkError(t, "a wrong offset", l, api.ErrRange)
				}
			}
		}
	}
}

// Y1, Y2: offsets are those of the object: neither the bytes of the others nor room beyond its own ones count.
func TestOffsetsOfOneObject(t *testing.T) {
	many := zeros(100, pairs([2]int{7, 100}), nil)
	room := make([]byte, 100)
	for _, o := range []api.Object{
		{Bytes: room[:2], Has: pairs([2]int{5, 3})},
		{Bytes: room[:2], Wants: pairs([2]int{7, 1})},
		{Bytes: room[:1], Wants: pairs([2]int{7, 0})},
		{Bytes: room[:0], Wants: pairs([2]int{7, 0})},
	} {
		checkError(t, "before another object", []api.Object{o, many}, api.ErrRange)
		checkError(t, "behind another object", []api.Object{many, o}, api.ErrRange)
	}
}

// Y1, Y2: two definitions of a name at any two places.
func TestTwoDefinitions(t *testing.T) {
	for _, offset := range []int{0, 1, 2} {
		again := [2]int{7, offset}
		checkError(t, "in one object", []api.Object{zeros(2, pairs([2]int{7, 1}, again), nil)}, api.ErrForm)
		checkError(t, "in one object with others", []api.Object{
			zeros(2, pairs([2]int{1, 0}, [2]int{7, 1}, [2]int{2, 0}, again, [2]int{3, 0}), pairs([2]int{7, 0}))}, api.ErrForm)
		checkError(t, "before a relocation without a definition", []api.Object{
			zeros(2, nil, pairs([2]int{99, 0})), zeros(2, pairs([2]int{7, 1}, again), nil)}, api.ErrForm)
		for b := range api.MaxObj {
			for a := range b {
				l := slices.Repeat([]api.Object{{}}, api.MaxObj)
				l[a] = zeros(2, pairs([2]int{8, 0}, [2]int{7, 1}), pairs([2]int{99, 0}))
				l[b] = zeros(2, pairs(again, [2]int{9, 0}), nil)
				checkError(t, "in two objects", l, api.ErrForm)
			}
		}
	}
	for _, name := range []int{math.MinInt, -1, 0, 256, math.MaxInt} {
		checkError(t, "of any name", []api.Object{{Has: pairs([2]int{name, 0})}, {Has: pairs([2]int{name, 0})}}, api.ErrForm)
	}
}

// Y1: symbols that no object defines.
func TestNoDefinition(t *testing.T) {
	for _, name := range []int{math.MinInt, -7, -1, 0, 6, 8, math.MaxInt} {
		for n := 1; n <= api.MaxObj; n++ {
			for place := range n {
				l := slices.Repeat([]api.Object{zeros(2, nil, pairs([2]int{7, 0}))}, n)
				l[place] = zeros(4, pairs([2]int{7, 0}), pairs([2]int{7, 2}, [2]int{name, 0}, [2]int{7, 2}))
				checkLink(t, "a relocation without a definition", l, nil, api.ErrNone)
				checkFind(t, "not defined", l, name, 0, api.ErrNone)
				checkFind(t, "another symbol", l, 7, 2*place, api.OK)
				checkNeeds(t, "a relocation without a definition", l, 1|1<<place, api.OK)
			}
		}
	}
	checkFind(t, "no objects", nil, 0, 0, api.ErrNone)
	checkFind(t, "no definitions", []api.Object{{}, zeros(3, nil, nil)}, 0, 0, api.ErrNone)
	checkFind(t, "only a relocation", []api.Object{zeros(2, nil, pairs([2]int{0, 0}))}, 0, 0, api.ErrNone)
}

// Y1: bytes of objects with few relocations.
func TestLink(t *testing.T) {
	for _, c := range []struct {
		name string
		l    []api.Object
		want []byte
	}{
		{"the document's example", []api.Object{{Bytes: []byte{9, 9}, Has: pairs([2]int{7, 2}), Wants: pairs([2]int{7, 0})}}, []byte{2, 0}},
		{"nil", nil, nil},
		{"no objects", []api.Object{}, nil},
		{"no bytes", []api.Object{{}, {Bytes: []byte{}, Has: pairs([2]int{7, 0})}}, nil},
		{"only bytes", []api.Object{{Bytes: []byte{0, 255}}, {}, {Bytes: []byte{3}}}, []byte{0, 255, 3}},
		{"bytes around a relocation", []api.Object{{Bytes: []byte{5, 6, 7, 8}, Has: pairs([2]int{1, 3}), Wants: pairs([2]int{1, 1})}}, []byte{5, 3, 0, 8}},
		{"the last two bytes", []api.Object{{Bytes: []byte{5, 6, 7}, Has: pairs([2]int{1, 0}), Wants: pairs([2]int{1, 1})}}, []byte{5, 0, 0}},
		{"a symbol ahead", []api.Object{
			{Bytes: []byte{5, 6, 7}, Wants: pairs([2]int{1, 0})}, {Bytes: []byte{8, 9}, Has: pairs([2]int{1, 1})}}, []byte{4, 0, 7, 8, 9}},
		{"a symbol behind", []api.Object{
			{Bytes: []byte{5, 6}, Has: pairs([2]int{1, 1})}, {Bytes: []byte{7, 8, 9}, Wants: pairs([2]int{1, 1})}}, []byte{5, 6, 7, 1, 0}},
		{"a symbol for several relocations", []api.Object{
			{Bytes: []byte{9, 9, 9, 9}, Wants: pairs([2]int{-1, 2}, [2]int{-1, 0})}, {Bytes: []byte{9, 9}, Has: pairs([2]int{-1, 2}), Wants: pairs([2]int{-1, 0})}},
			[]byte{6, 0, 6, 0, 6, 0}},
		{"the later of two relocations starts later", []api.Object{zeros(3, pairs([2]int{1, 1}, [2]int{3, 3}), pairs([2]int{1, 0}, [2]int{3, 1}))}, []byte{1, 3, 0}},
		{"the later of two relocations starts earlier", []api.Object{zeros(3, pairs([2]int{1, 1}, [2]int{3, 3}), pairs([2]int{3, 1}, [2]int{1, 0}))}, []byte{1, 0, 0}},
		{"two relocations at one place", []api.Object{zeros(2, pairs([2]int{1, 1}, [2]int{2, 2}), pairs([2]int{1, 0}, [2]int{2, 0}))}, []byte{2, 0}},
		{"two relocations at one place in the other order", []api.Object{zeros(2, pairs([2]int{1, 1}, [2]int{2, 2}), pairs([2]int{2, 0}, [2]int{1, 0}))}, []byte{1, 0}},
	} {
		checkLink(t, c.name, c.l, c.want, api.OK)
	}
}

// Y1: addresses of two bytes.
func TestHighAddresses(t *testing.T) {
	wants := pairs([2]int{255, 0}, [2]int{256, 2}, [2]int{399, 4}, [2]int{400, 6}, [2]int{600, 8}, [2]int{1000, 10})
	l := slices.Repeat([]api.Object{zeros(api.MaxBytes, nil, nil)}, api.MaxObj)
	l[0].Wants = wants
	l[1].Has = pairs([2]int{255, 55}, [2]int{256, 56}, [2]int{399, 199}, [2]int{400, 200})
	l[3].Has = pairs([2]int{600, 0})
	l[4].Has = pairs([2]int{1000, 200})
	want := make([]byte, api.MaxObj*api.MaxBytes)
	copy(want, []byte{255, 0, 0, 1, 143, 1, 144, 1, 88, 2, 232, 3})
	checkLink(t, "high addresses", l, want, api.OK)
	for _, pair := range wants {
		checkFind(t, "high addresses", l, pair[0], pair[0], api.OK)
	}
	high := slices.Clone(l)
	high[0].Wants, high[4].Wants = nil, pairs([2]int{1000, 197}, [2]int{256, 198})
	copy(want, make([]byte, 12))
	copy(want[997:], []byte{232, 0, 1})
	checkLink(t, "the earlier of two relocations keeps its lower byte", high, want, api.OK)
}

// Y1: addresses of symbols with any names, also of such that no relocation names.
func TestFind(t *testing.T) {
	l := []api.Object{
		zeros(3, pairs([2]int{math.MaxInt, 3}, [2]int{0, 0}), nil),
		zeros(0, pairs([2]int{-1, 0}), nil),
		zeros(5, pairs([2]int{5, 1}, [2]int{math.MinInt, 0}, [2]int{6, 1}, [2]int{256, 5}), nil),
	}
	for name, at := range map[int]int{math.MaxInt: 3, 0: 0, -1: 3, 5: 4, math.MinInt: 3, 6: 4, 256: 8} {
		checkFind(t, "any name", l, name, at, api.OK)
	}
	for _, name := range []int{1, 2, 3, 4, 7, 255, 257, math.MaxInt - 1, math.MinInt + 1} {
		checkFind(t, "no such name", l, name, 0, api.ErrNone)
	}
}

// chained lists objects, each with the symbol of its own number, and with relocations for these symbols.
func chained(wants ...[]int) []api.Object {
	l := make([]api.Object, len(wants))
	for i, names := range wants {
		l[i] = zeros(2, pairs([2]int{i, 0}), nil)
		for _, name := range names {
			l[i].Wants = append(l[i].Wants, [2]int{name, 0})
		}
	}
	return l
}

// Y2: sets of objects that are easily seen.
func TestNeeds(t *testing.T) {
	for _, c := range []struct {
		name string
		l    []api.Object
		want uint32
	}{
		{"nil", nil, 0},
		{"no objects", []api.Object{}, 0},
		{"one object", []api.Object{{}}, 0b1},
		{"the document's example", []api.Object{{Bytes: []byte{9, 9}, Has: pairs([2]int{7, 2}), Wants: pairs([2]int{7, 0})}}, 0b1},
		{"only the first one", chained(nil, nil, nil, nil, nil), 0b1},
		{"nothing needed, but much needs it", chained(nil, []int{0}, []int{0, 1}, []int{2}), 0b1},
		{"itself", chained([]int{0}, []int{1}), 0b1},
		{"the last one", chained([]int{4}, nil, nil, nil, nil), 0b10001},
		{"several at once", chained([]int{1, 3, 1}, nil, nil, nil, []int{2}), 0b1011},
		{"a chain", chained([]int{1}, []int{2}, []int{3}, []int{4}, nil), 0b11111},
		{"a chain backwards", chained([]int{4}, nil, []int{1}, []int{2}, []int{3}), 0b11111},
		{"a chain that ends", chained([]int{3}, []int{2}, nil, []int{4}, nil), 0b11001},
		{"a cycle", chained([]int{2}, []int{0}, []int{3}, []int{0}, []int{1}), 0b1101},
		{"a cycle aside", chained([]int{1}, nil, []int{3}, []int{2}), 0b11},
		{"symbols that no object defines", chained([]int{5, -1}, []int{2}, nil), 0b1},
		{"some symbols that no object defines", chained([]int{math.MinInt, 1, math.MaxInt}, []int{31, 2, 32}, nil, nil), 0b111},
	} {
		checkNeeds(t, c.name, c.l, c.want, api.OK)
	}
}

// Y1, Y2: as much of all as is allowed.
func TestLimits(t *testing.T) {
	var l []api.Object
	var want []byte
	for i := range api.MaxObj {
		l = append(l, fullObject(100*i))
		part := make([]byte, api.MaxBytes)
		for k := range api.MaxPoint {
			at := 200*(i+1) - k
			part[2*k], part[2*k+1] = byte(at%256), byte(at/256)
		}
		want = append(want, part...)
	}
	checkLink(t, "limits", l, want, api.OK)
	checkFind(t, "limits", l, 411, 989, api.OK)
	checkNeeds(t, "limits", l, 1, api.OK)
}

// Y1, Y2: all lists of up to three of these small objects, valid or not.
func TestShortLists(t *testing.T) {
	var objects []api.Object
	for _, count := range []int{0, 2, 3} {
		for _, has := range [][][2]int{nil, pairs([2]int{1, 0}), pairs([2]int{2, count}), pairs([2]int{2, 1}, [2]int{3, 0})} {
			for _, wants := range [][][2]int{nil, pairs([2]int{1, 0}), pairs([2]int{3, count - 2}), pairs([2]int{2, 1}, [2]int{1, 0})} {
				objects = append(objects, api.Object{Bytes: []byte{7, 8, 9}[:count], Has: has, Wants: wants})
			}
		}
	}
	for l := range sample.AllLists(objects, 3) {
		checkAll(t, l, []int{0, 1, 2, 3})
	}
}

// somePairs lists up to most names of those below names, with offsets from 0 to last.
func somePairs(pick func(int) int, most, names, last int) [][2]int {
	var list [][2]int
	for range pick(most + 1) {
		list = append(list, [2]int{pick(names), pick(last + 1)})
	}
	return list
}

// someObjects lists objects by a fixed rule: each of the names is defined at most once, and all other names never.
func someObjects(pick func(int) int, names, most int) []api.Object {
	l := make([]api.Object, pick(api.MaxObj+1))
	for i := range l {
		for range pick(most + 1) {
			l[i].Bytes = append(l[i].Bytes, byte(pick(256)))
		}
		if last := len(l[i].Bytes) - 2; last >= 0 {
			l[i].Wants = somePairs(pick, api.MaxPoint, names+pick(2), last)
		}
	}
	for name := range names {
		if len(l) == 0 || pick(30) == 0 {
			continue
		}
		if o := &l[pick(len(l))]; len(o.Has) < api.MaxPoint {
			o.Has = append(o.Has, [2]int{name, pick(len(o.Bytes) + 1)})
		}
	}
	return l
}

// Y1, Y2: long lists of objects, most of them valid.
func TestLongLists(t *testing.T) {
	pick := sample.Numbers()
	valid := 0
	for range 20000 {
		names := 1 + pick(12)
		l := someObjects(pick, names, []int{4, 20, api.MaxBytes}[pick(3)])
		checkAll(t, l, append(sample.UpTo(names+1), -1))
		if commonError(l) == api.OK && isDefined(l) {
			valid++
		}
	}
	if valid < 5000 {
		t.Errorf("only %d lists can be linked", valid)
	}
}

// Y1, Y2: objects with one number of a pair changed, or one more pair.
func TestChangedLists(t *testing.T) {
	pick := sample.Numbers()
	for range 10000 {
		l := someObjects(pick, 1+pick(8), 10)
		if len(l) == 0 {
			continue
		}
		o := &l[pick(len(l))]
		list := &o.Has
		if pick(2) == 0 {
			list = &o.Wants
		}
		if len(*list) == 0 || pick(3) == 0 {
			*list = append(*list, [2]int{pick(8), pick(12) - 1})
		} else {
			(*list)[pick(len(*list))][pick(2)] = pick(14) - 2
		}
		checkAll(t, l, sample.UpTo(9))
	}
}

// P3: objects are neither changed nor kept, and what is beyond the lists does not matter.
func TestMemory(t *testing.T) {
	room := []byte{1, 2, 3, 4, 5, 6}
	has := pairs([2]int{7, 1}, [2]int{8, 4}, [2]int{7, 99}, [2]int{9, -1})
	wants := pairs([2]int{8, 0}, [2]int{9, 2}, [2]int{99, 99})
	objects := []api.Object{
		{Bytes: room[:4], Has: has[:2], Wants: wants[:2]},
		{Bytes: room[4:5], Has: pairs([2]int{9, 1})},
		{Has: pairs([2]int{7, 0})},
		zeros(api.MaxBytes+1, nil, nil),
	}
	roomBefore, hasBefore, wantsBefore := slices.Clone(room), slices.Clone(has), slices.Clone(wants)
	for range 2 {
		l := objects[:2]
		b, _ := link.Link(l)
		for i := range b[:cap(b)] {
			b[:cap(b)][i] = 99
		}
		checkLink(t, "memory", l, []byte{4, 0, 5, 0, 5}, api.OK)
		checkLink(t, "a relocation without a definition", l[:1], nil, api.ErrNone)
		checkLink(t, "one object as it is", []api.Object{{Bytes: room}}, []byte{1, 2, 3, 4, 5, 6}, api.OK)
		checkFind(t, "memory", l, 9, 5, api.OK)
		checkNeeds(t, "memory", l, 0b11, api.OK)
		single, _ := link.Link([]api.Object{{Bytes: room}})
		single[0] = 99
	}
	if !slices.Equal(room, roomBefore) || !slices.Equal(has, hasBefore) || !slices.Equal(wants, wantsBefore) {
		t.Errorf("the arguments changed: %v, %v, %v", room, has, wants)
	}
	if len(objects[0].Bytes) != 4 || len(objects[0].Has) != 2 || len(objects[3].Bytes) != api.MaxBytes+1 {
		t.Errorf("the list changed: %v", objects)
	}
}
