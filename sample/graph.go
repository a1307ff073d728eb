package sample

import (
	"iter"
	"slices"

	"codemason/api"
)

// BadGraph is a graph that is invalid.
type BadGraph struct {
	Name string
	Next [][]int
	Want api.Errno
}

// BadGraphs lists invalid graphs, which all functions of graphs reject.
func BadGraphs() []BadGraph {
	crowd := slices.Repeat([]int{0}, api.MaxNext+1)
	tooMany := make([][]int, api.MaxNodes+1)
	bad := []BadGraph{
		{"nil", nil, api.ErrLarge},
		{"empty", [][]int{}, api.ErrLarge},
		{"too many nodes", tooMany, api.ErrLarge},
		{"too many nodes, and edges to the last one", slices.Repeat([][]int{{api.MaxNodes}}, api.MaxNodes+1), api.ErrLarge},
		{"too many nodes before arg", append([][]int{{-1}}, tooMany...), api.ErrLarge},
		{"too many edges", [][]int{crowd}, api.ErrLarge},
		{"too many edges before arg", [][]int{append([]int{-1}, crowd...)}, api.ErrLarge},
		{"too many edges, the last one wrong", [][]int{{0, 0, 0, 1}}, api.ErrLarge},
		{"first is arg", [][]int{{1}, {-1}, crowd}, api.ErrArg},
		{"first is large", [][]int{{1}, crowd, {-1}}, api.ErrLarge},
	}
	for nodes := 1; nodes <= api.MaxNodes; nodes++ {
		for v := range nodes {
			bad = append(bad, BadGraph{"too many edges of one node", oneWith(nodes, v, crowd), api.ErrLarge})
			for _, to := range Outside(nodes) {
				for _, targets := range [][]int{{to}, {to, 0, 0}, {0, to, 0}, {0, 0, to}} {
					bad = append(bad, BadGraph{"edge of one node", oneWith(nodes, v, targets), api.ErrArg})
				}
			}
		}
	}
	return bad
}

// oneWith is a graph in which only node v has edges.
func oneWith(nodes, v int, targets []int) [][]int {
	next := make([][]int, nodes)
	next[v] = slices.Clone(targets)
	return next
}

// ShortGraphs yields all graphs of 1 to most nodes. A graph is valid until the next one is yielded.
func ShortGraphs(most int) iter.Seq[[][]int] {
	return func(yield func(next [][]int) bool) {
		for nodes := 1; nodes <= most; nodes++ {
			choices := targetLists(nodes)
			var extend func(next [][]int) bool
			extend = func(next [][]int) bool {
				if len(next) == nodes {
					return yield(next)
				}
				for _, targets := range choices {
					if !extend(append(next, targets)) {
						return false
					}
				}
				return true
			}
			if !extend(nil) {
				return
			}
		}
	}
}

// targetLists lists everything that a node of a graph of so many nodes may have as its list.
func targetLists(nodes int) [][]int {
	all := [][]int{nil}
	// The list grows while it is visited: each element is extended by each node.
	for i := 0; i < len(all); i++ {
		if len(all[i]) == api.MaxNext {
			continue
		}
		for v := range nodes {
			all = append(all, append(slices.Clone(all[i]), v))
		}
	}
	return all
}

// Graph builds a graph of so many nodes, each with at most most edges.
func Graph(next func(int) int, nodes, most int) [][]int {
	graph := make([][]int, nodes)
	for v := range graph {
		for range next(most + 1) {
			graph[v] = append(graph[v], next(nodes))
		}
	}
	return graph
}

// WatchedGraph is a graph with the lists {1, 2}, {0, 2} and {2}, and a function that tells whether it has changed, also beyond the length of a list.
func WatchedGraph() (next [][]int, changed func() bool) {
	edges := []int{1, 2, 99, 0, 2, 98, 2, 97}
	lists := [][]int{edges[:2], edges[3:5], edges[6:7], edges[7:]}
	edgesBefore, listsBefore := slices.Clone(edges), slices.Clone(lists)
	same := func(a, b []int) bool { return len(a) == len(b) && &a[0] == &b[0] }
	return lists[:3], func() bool {
		return !slices.Equal(edges, edgesBefore) || !slices.EqualFunc(lists, listsBefore, same)
	}
}
