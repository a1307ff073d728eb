package point

import (
	"slices"

	"codemason/api"
)

// classes divides the variables into classes, each of which may point to one class.
type classes struct {
	head   []int // For each variable, the one of its class that stands for all of them.
	target []int // For each of these, some variable of the class to which its class points, or none.
}

// Joined returns, for each variable, the set of those to which it may point by the unification-based analysis.
func Joined(vars int, l []api.Point) ([]uint32, api.Errno) {
	if e := check(vars, l); e != api.OK {
		return nil, e
	}
	c := singles(vars)
	for {
		before := c.clone()
		for _, s := range l {
			c.process(s)
		}
		if c.equal(before) {
			return c.sets(), api.OK
		}
	}
}

// singles returns a class for each variable, which points to none.
func singles(vars int) classes {
	c := classes{target: slices.Repeat([]int{none}, vars)}
	for v := range vars {
		c.head = append(c.head, v)
	}
	return c
}

// clone returns the same classes in other memory.
func (c classes) clone() classes {
	return classes{slices.Clone(c.head), slices.Clone(c.target)}
}

// equal reports whether nothing was unified and nothing got a target between c and d.
func (c classes) equal(d classes) bool {
	return slices.Equal(c.head, d.head) && slices.Equal(c.target, d.target)
}

// process changes the classes as a statement asks for.
func (c classes) process(s api.Point) {
	switch s.Kind {
	case api.PAddr:
		c.aim(s.To, s.From)
	case api.PCopy:
		c.equate(s.To, s.From)
	case api.PLoad:
		if v := c.targetOf(s.From); v != none {
			c.equate(s.To, v)
		}
	case api.PStore:
		if v := c.targetOf(s.To); v != none {
			c.equate(v, s.From)
		}
	}
}

// targetOf returns some variable of the class to which the class of v points, or none.
func (c classes) targetOf(v int) int { return c.target[c.head[v]] }

// aim makes the class of a point to that of to, which is unified with what the class points to already. If to is none, it does nothing.
func (c classes) aim(a, to int) {
	if to == none {
		return
	}
	if old := c.targetOf(a); old != none {
		c.unify(old, to)
		return
	}
	c.target[c.head[a]] = to
}

// equate equates the targets of the classes of a and b.
func (c classes) equate(a, b int) {
	c.aim(a, c.targetOf(b))
	c.aim(b, c.targetOf(a))
}

// unify merges the classes of a and b, and what they point to.
func (c classes) unify(a, b int) {
	kept, gone := c.head[a], c.head[b]
	if kept == gone {
		return
	}
	for v, h := range c.head {
		if h == gone {
			c.head[v] = kept
		}
	}
	// This ends, also where classes point to each other: there is one class less each time.
	c.aim(kept, c.target[gone])
}

// sets returns, for each variable, the set of those in the class to which its class points.
func (c classes) sets() []uint32 {
	members := make([]uint32, len(c.head))
	for v, h := range c.head {
		members[h] |= 1 << v
	}
	sets := make([]uint32, len(c.head))
	for v := range sets {
		if to := c.targetOf(v); to != none {
			sets[v] = members[c.head[to]]
		}
	}
	return sets
}
