package jump_test

import "codemason/api"

// between counts the bytes between the end of piece i and the start of piece to.
func between(size []int, i, to int) int {
	// From a jump, one goes forward over what is behind it, and backward also over the jump itself.
	over := size[min(i+1, to):max(i+1, to)]
	sum := 0
	for _, s := range over {
		sum += s
	}
	return sum
}

// isChoice reports whether each piece has a size that it may have among the others.
func isChoice(l []api.Piece, size []int) bool {
	if len(size) != len(l) {
		return false
	}
	for i, p := range l {
		switch {
		case !p.Jump && size[i] != p.Bytes:
			return false
		case p.Jump && size[i] != 4 && (size[i] != 2 || between(size, i, p.To) > 50):
			return false
		}
	}
	return true
}

// isLaid reports whether at has the sums of the sizes before each place.
func isLaid(at, size []int) bool {
	if len(at) != len(size)+1 || at[0] != 0 {
		return false
	}
	for i, s := range size {
		if at[i+1]-at[i] != s {
			return false
		}
	}
	return true
}

// longOnes counts the long jumps.
func longOnes(l []api.Piece, size []int) int {
	count := 0
	for i, p := range l {
		if p.Jump && size[i] == 4 {
			count++
		}
	}
	return count
}

// fewestLong tries every choice of the sizes of the jumps.
func fewestLong(l []api.Piece) int {
	fewest := len(l) + 1
	size := make([]int, len(l))
	var extend func(i, long int)
	extend = func(i, long int) {
		switch {
		case long >= fewest:
		case i == len(l):
			if isChoice(l, size) {
				fewest = long
			}
		case l[i].Jump:
			for extra, s := range []int{2, 4} {
				size[i] = s
				extend(i+1, long+extra)
			}
		default:
			size[i] = l[i].Bytes
			extend(i+1, long)
		}
	}
	extend(0, 0)
	return fewest
}
