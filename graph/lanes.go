package graph

import (
	"slices"

	"onceweb/api"
)

// none stands where a node would, if there were one.
const none = -1

// lanes is, of each node, the nodes that an edge leads to from it, rising, each once.
type lanes [][]int

func lanesOf(g api.Graph) lanes {
	l := make(lanes, g.N)
	for _, edge := range g.Edges {
		l[edge.From] = append(l[edge.From], edge.To)
	}
	for node := range g.N {
		slices.Sort(l[node])
		l[node] = slices.Compact(l[node])
	}
	return l
}

func turned(g api.Graph) api.Graph {
	back := api.Graph{N: g.N, Edges: make([]api.Edge, len(g.Edges))}
	for i, edge := range g.Edges {
		back.Edges[i] = api.Edge{From: edge.To, To: edge.From}
	}
	return back
}

// walk goes from a node along all ways over nodes that were not seen yet, and visits each of them when it is done with all behind it.
func (l lanes) walk(node int, seen []bool, visit func(at int)) {
	if seen[node] {
		return
	}
	seen[node] = true
	for _, to := range l[node] {
		l.walk(to, seen, visit)
	}
	visit(node)
}

// mark lets a node be seen, and all that it has a way to over nodes that were not seen yet.
func (l lanes) mark(node int, seen []bool) { l.walk(node, seen, func(int) {}) }

// around is the nodes that a node has a way of two edges or more to.
func (l lanes) around(from int) []bool {
	seen := make([]bool, len(l))
	for _, by := range l[from] {
		for _, to := range l[by] {
			l.mark(to, seen)
		}
	}
	return seen
}

// without is the nodes that a root comes to without going through one of them, and that one.
func (l lanes) without(out, root int) []bool {
	seen := make([]bool, len(l))
	seen[out] = true
	l.mark(root, seen)
	return seen
}

// components (Kosaraju): of the nodes that are left, the one that a walk is done with last has a way to it only from its own component; so a walk against the edges, from there, comes to just that.
func components(g api.Graph) [][]int {
	ahead, back := lanesOf(g), lanesOf(turned(g))
	var done []int
	seen := make([]bool, g.N)
	for node := range g.N {
		ahead.walk(node, seen, func(at int) { done = append(done, at) })
	}
	var parts [][]int
	seen = make([]bool, g.N)
	for _, node := range slices.Backward(done) {
		if seen[node] {
			continue
		}
		var part []int
		back.walk(node, seen, func(at int) { part = append(part, at) })
		slices.Sort(part)
		parts = append(parts, part)
	}
	slices.SortFunc(parts, func(a, b []int) int { return a[0] - b[0] })
	return parts
}
