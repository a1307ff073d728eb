package link_test

import (
	"slices"

	"codemason/api"
)

// commonError is the first common error that applies, by the document's definition.
func commonError(l []api.Object) api.Errno {
	count := map[int]int{}
	large, loose, twice := len(l) > 5, false, false
	for _, o := range l {
		large = large || len(o.Bytes) > 200 || len(o.Has) > 12 || len(o.Wants) > 12
		for _, has := range o.Has {
			loose = loose || has[1] < 0 || has[1] > len(o.Bytes)
			count[has[0]]++
			twice = twice || count[has[0]] == 2
		}
		for _, want := range o.Wants {
			loose = loose || want[1] < 0 || want[1] >= len(o.Bytes) || want[1] == len(o.Bytes)-1
		}
	}
	switch {
	case large:
		return api.ErrLarge
	case loose:
		return api.ErrRange
	case twice:
		return api.ErrForm
	}
	return api.OK
}

// definer searches the object that defines a symbol, and the symbol's address: both are -1 if there is none.
func definer(l []api.Object, name int) (object, address int) {
	for i, o := range l {
		for _, has := range o.Has {
			if has[0] == name {
				return i, startOf(l, i) + has[1]
			}
		}
	}
	return -1, -1
}

// startOf counts the bytes before an object.
func startOf(l []api.Object, object int) int {
	count := 0
	for _, o := range l[:object] {
		count += len(o.Bytes)
	}
	return count
}

// isDefined reports whether all symbols that relocations name are defined.
func isDefined(l []api.Object) bool {
	for _, o := range l {
		for _, want := range o.Wants {
			if object, _ := definer(l, want[0]); object < 0 {
				return false
			}
		}
	}
	return true
}

// linked is each byte by itself: a part of the address that the last relocation for it requires, or else what the object has there.
func linked(l []api.Object) []byte {
	var all []byte
	for _, o := range l {
		for at, b := range o.Bytes {
			for _, want := range slices.Backward(o.Wants) {
				if _, address := definer(l, want[0]); at == want[1] {
					b = byte(address % 256)
					break
				} else if at == want[1]+1 {
					b = byte(address / 256)
					break
				}
			}
			all = append(all, b)
		}
	}
	return all
}

// isClosed reports whether a set contains the first object, and whatever the objects in it need.
func isClosed(l []api.Object, set uint32) bool {
	for i, o := range l {
		if set>>i&1 == 0 {
			if i == 0 {
				return false
			}
			continue
		}
		for _, want := range o.Wants {
			if object, _ := definer(l, want[0]); object >= 0 && set>>object&1 == 0 {
				return false
			}
		}
	}
	return true
}

// smallestClosed tries all sets of objects: the smallest one is in all others that are closed.
func smallestClosed(l []api.Object) uint32 {
	common := uint32(1)<<len(l) - 1
	for set := range uint32(1) << len(l) {
		if isClosed(l, set) {
			common &= set
		}
	}
	return common
}
