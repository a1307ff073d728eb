package single

import (
	"slices"

	"codemason/api"
	"codemason/block"
	"codemason/rule"
	"codemason/way"
)

// Build converts a program to a named program in static single assignment form that does the same.
func Build(vars int, p []api.Block) ([]api.Single, api.Errno) {
	next, e := block.Way(vars, p)
	if e != api.OK {
		return nil, e
	}
	// The graph of a valid program is valid: there are no other errors.
	dominator, _ := rule.Tree(next)
	b := builder{joinedVars(vars, p, next), make([]api.Single, len(p)), vars}
	for _, i := range blocksInTurn(next) {
		before := firstNames(vars)
		if dominator[i] != none {
			before = b.l[dominator[i]].Last
		}
		b.nameBlock(i, p[i], before)
	}
	b.fillJoins(sources(next))
	return b.l, api.OK
}

// joinedVars returns, for each block of a valid program, the variables for which it needs a join.
func joinedVars(vars int, p []api.Block, next [][]int) [][]int {
	joined := make([][]int, len(p))
	for v := range vars {
		// That the start sets the variable too adds no block: it is ahead of all ways, also of those back to block 0.
		meet, _ := rule.Meet(next, setters(p, v))
		for i := range p {
			if way.Has(meet, i) {
				joined[i] = append(joined[i], v)
			}
		}
	}
	return joined
}

// setters returns the set of the blocks that set a variable.
func setters(p []api.Block, v int) uint32 {
	var set uint32
	for i, b := range p {
		for _, s := range b.Code {
			if s.To == v {
				set |= 1 << i
			}
		}
	}
	return set
}

// blocksInTurn lists all blocks, those that are reached first, each of them behind its dominators.
func blocksInTurn(next [][]int) []int {
	order, _ := way.Order(next)
	for i := range next {
		if !slices.Contains(order, i) {
			order = append(order, i)
		}
	}
	return order
}

// firstNames lists the names that hold the variables at the start.
func firstNames(vars int) []int {
	names := make([]int, vars)
	for v := range names {
		names[v] = v
	}
	return names
}

// builder is a named program that is being built.
type builder struct {
	joined [][]int // For each block, the variable of each of its joins.
	l      []api.Single
	taken  int // How many names are in use.
}

// newName returns a name that is not in use yet. There are enough for all steps, and for joins of all variables in all blocks.
func (b *builder) newName() int {
	name := b.taken
	b.taken++
	return name
}

// nameBlock converts block i, except for From of its joins, where before lists the names that hold the variables ahead of the joins.
func (b *builder) nameBlock(i int, from api.Block, before []int) {
	named := api.Single{Test: none, Then: from.Then, Else: from.Else, Last: slices.Clone(before)}
	for _, v := range b.joined[i] {
		named.Last[v] = b.newName()
		named.Joins = append(named.Joins, api.Join{To: named.Last[v]})
	}
	for _, s := range from.Code {
		name := b.newName()
		named.Code = append(named.Code, nameStep(s, name, named.Last))
		named.Last[s.To] = name
	}
	if from.Test != none {
		named.Test = named.Last[from.Test]
	}
	b.l[i] = named
}

// nameStep converts a step, where names lists those that hold the variables before it, so that it sets the name to.
func nameStep(s api.Step, to int, names []int) api.Step {
	switch s.Op {
	case api.ONum:
		return api.Step{Op: s.Op, To: to, Val: s.Val}
	case api.OVar:
		return api.Step{Op: s.Op, To: to, Val: names[s.Val]}
	}
	return api.Step{Op: s.Op, To: to, A: names[s.A], B: names[s.B]}
}

// fillJoins lets each join take the names that hold its variable at the end of the sources of its block.
func (b *builder) fillJoins(sources [][]int) {
	for i, vars := range b.joined {
		for n, v := range vars {
			j := &b.l[i].Joins[n]
			for _, from := range sources[i] {
				if from == start {
					j.From = append(j.From, v)
				} else {
					j.From = append(j.From, b.l[from].Last[v])
				}
			}
		}
	}
}
