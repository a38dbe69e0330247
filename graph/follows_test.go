package graph_test

import (
	"math/rand/v2"
	"slices"
	"testing"

	"onceweb/api"
	"onceweb/graph"
)

// reached is, of each node, the nodes that it and its ways come to, by what Reach tells.
func reached(g api.Graph) [][]int {
	l := make([][]int, g.N)
	for node := range l {
		l[node], _ = graph.Reach(g, []int{node})
	}
	return l
}

// eachSome tells all graphs of up to 3 nodes, and many by chance.
func eachSome(seed uint64, tell func(r *rand.Rand, g api.Graph)) {
	r := rand.New(rand.NewPCG(15, seed))
	for n := range 4 {
		eachGraph(n, func(g api.Graph) { tell(r, g) })
	}
	for range 400 {
		tell(r, someGraph(r, 12, 20))
		tell(r, someGraph(r, 30, 60))
		tell(r, someGraph(r, 60, 70))
	}
}

// 15.6: components part the nodes by who goes round together; with each as one node nothing goes round.
func TestComponentsPart(t *testing.T) {
	eachSome(6, func(_ *rand.Rand, g api.Graph) {
		parts, e := graph.Components(g)
		if e != api.OK {
			t.Fatalf("%s: %v", graphText(g, api.OK), e)
		}
		of, all := make([]int, g.N), []int(nil)
		for place, part := range parts {
			for _, node := range part {
				of[node] = place
			}
			all = append(all, part...)
			if !slices.IsSorted(part) || place > 0 && part[0] < parts[place-1][0] {
				t.Fatalf("%s: %v", graphText(g, api.OK), parts)
			}
		}
		slices.Sort(all)
		if !slices.Equal(all, rising(0, g.N)) {
			t.Fatalf("%s: %v", graphText(g, api.OK), parts)
		}
		l := reached(g)
		for a := range g.N {
			for b := range g.N {
				if together := slices.Contains(l[a], b) && slices.Contains(l[b], a); together != (of[a] == of[b]) {
					t.Fatalf("%s: %d and %d: %v", graphText(g, api.OK), a, b, parts)
				}
			}
		}
		whole := api.Graph{N: len(parts)}
		for _, edge := range g.Edges {
			if of[edge.From] != of[edge.To] {
				whole.Edges = append(whole.Edges, api.Edge{From: of[edge.From], To: of[edge.To]})
			}
		}
		if round, e := graph.Round(whole); len(round) > 0 || e != api.OK {
			t.Fatalf("%s: %v: %v go round", graphText(g, api.OK), parts, round)
		}
	})
}

// stands tells whether an order has each node once, and all edges lead to one that stands behind.
func stands(g api.Graph, order []int) bool {
	sorted := slices.Sorted(slices.Values(order))
	return slices.Equal(sorted, rising(0, g.N)) && !slices.ContainsFunc(g.Edges, func(edge api.Edge) bool {
		return slices.Index(order, edge.From) >= slices.Index(order, edge.To)
	})
}

// 15.7: an order is there just if no node goes round, of the turned graph too; levels rise along edges.
func TestOrders(t *testing.T) {
	orders := 0
	eachSome(7, func(_ *rand.Rand, g api.Graph) {
		back, _ := graph.Turn(g)
		round, _ := graph.Round(g)
		order, e := graph.Order(g)
		other, f := graph.Order(back)
		levels, h := graph.Levels(g)
		if len(round) > 0 {
			if e != api.ErrRound || f != api.ErrRound || h != api.ErrRound {
				t.Fatalf("%s: %v go round: %v, %v, %v", graphText(g, api.OK), round, e, f, h)
			}
			return
		}
		orders++
		if e != api.OK || f != api.OK || h != api.OK || !stands(g, order) || !stands(back, other) {
			t.Fatalf("%s: %v, %v; turned %v, %v; %v", graphText(g, api.OK), order, e, other, f, h)
		}
		for _, edge := range g.Edges {
			if levels[edge.From] >= levels[edge.To] {
				t.Fatalf("%s: levels %v", graphText(g, api.OK), levels)
			}
		}
	})
	if orders < 300 {
		t.Errorf("%d orders", orders)
	}
}

// 15.8: Lean reaches what the graph reaches, and less without any of its edges.
func TestLeanReaches(t *testing.T) {
	eachSome(8, func(_ *rand.Rand, g api.Graph) {
		lean, e := graph.Lean(g)
		if e != api.OK {
			return
		}
		l := partsText(reached(g), api.OK)
		if partsText(reached(lean), api.OK) != l {
			t.Fatalf("%s: lean %s", graphText(g, api.OK), edgesText(lean.Edges))
		}
		if len(lean.Edges) > 40 {
			return
		}
		for i := range lean.Edges {
			less := api.Graph{N: lean.N, Edges: slices.Delete(slices.Clone(lean.Edges), i, i+1)}
			if partsText(reached(less), api.OK) == l {
				t.Fatalf("%s: lean %s without %v", graphText(g, api.OK), edgesText(lean.Edges), lean.Edges[i])
			}
		}
		for _, edge := range lean.Edges {
			if !slices.Contains(g.Edges, edge) {
				t.Fatalf("%s: lean %s has %v", graphText(g, api.OK), edgesText(lean.Edges), edge)
			}
		}
		// What is lean has nothing to leave out.
		want(t, graphText(graph.Lean(lean)), graphText(lean, api.OK), "Lean of what is lean")
	})
}

// 15.8: Longest is at least each node's weight, and at most the sum of all; and it is the sum along its nodes.
func TestLongestBounds(t *testing.T) {
	eachSome(9, func(r *rand.Rand, g api.Graph) {
		weights := someWeights(r, g.N)
		sum, way, e := graph.Longest(g, weights)
		if e != api.OK {
			return
		}
		all, along := 0, 0
		for _, weight := range weights {
			all += weight
			if sum < weight {
				t.Fatalf("%s: Longest of %v: %d", graphText(g, api.OK), weights, sum)
			}
		}
		for i, node := range way {
			along += weights[node]
			if i > 0 && !slices.Contains(g.Edges, api.Edge{From: way[i-1], To: node}) {
				t.Fatalf("%s: Longest of %v: %v", graphText(g, api.OK), weights, way)
			}
		}
		if sum > all || sum != along {
			t.Fatalf("%s: Longest of %v: %d, %v", graphText(g, api.OK), weights, sum, way)
		}
	})
}

// reachedWithout is the nodes that a root comes to if one node's edges are not there.
func reachedWithout(g api.Graph, out, root int) []int {
	less := api.Graph{N: g.N, Edges: slices.DeleteFunc(slices.Clone(g.Edges), func(edge api.Edge) bool {
		return edge.From == out || edge.To == out
	})}
	l, _ := graph.Reach(less, []int{root})
	return l
}

// 15.9: without a node's gate, and without that one's gate, the root has no way to the node; without any other node it has one.
func TestNoWayPastGates(t *testing.T) {
	eachSome(10, func(r *rand.Rand, g api.Graph) {
		if g.N == 0 {
			return
		}
		root := r.IntN(g.N)
		gates, e := graph.Gates(g, root)
		all, _ := graph.Reach(g, []int{root})
		if e != api.OK || len(gates) != g.N {
			t.Fatalf("%s: Gates from %d: %v, %v", graphText(g, api.OK), root, gates, e)
		}
		without := make([][]int, g.N)
		for out := range g.N {
			without[out] = reachedWithout(g, out, root)
		}
		for node := range g.N {
			if node == root || !slices.Contains(all, node) {
				if gates[node] != -1 {
					t.Fatalf("%s: Gates from %d: %v", graphText(g, api.OK), root, gates)
				}
				continue
			}
			var chain []int
			for at := gates[node]; at != root; at = gates[at] {
				if at < 0 || len(chain) > g.N {
					t.Fatalf("%s: Gates from %d: %v: no chain to %d", graphText(g, api.OK), root, gates, node)
				}
				chain = append(chain, at)
			}
			for out := range g.N {
				if out != node && out != root && slices.Contains(without[out], node) == slices.Contains(chain, out) {
					t.Fatalf("%s: Gates from %d: %v: without %d to %d", graphText(g, api.OK), root, gates, out, node)
				}
			}
		}
	})
}

// Turned twice a graph is as it was; turned it goes round in the same places, and ways lead back.
func TestTurnedGraphs(t *testing.T) {
	eachSome(11, func(_ *rand.Rand, g api.Graph) {
		back, e := graph.Turn(g)
		want(t, graphText(graph.Turn(back)), graphText(g, e), "turned twice")
		want(t, partsText(graph.Components(back)), partsText(graph.Components(g)), graphText(back, api.OK), "Components")
		want(t, listText(graph.Round(back)), listText(graph.Round(g)), graphText(back, api.OK), "Round")
		l, m := reached(g), reached(back)
		for a := range g.N {
			for b := range g.N {
				if slices.Contains(l[a], b) != slices.Contains(m[b], a) {
					t.Fatalf("%s: a way from %d to %d", graphText(g, api.OK), a, b)
				}
			}
			one, e := graph.Circle(g, a)
			other, f := graph.Circle(back, a)
			if len(one) != len(other) || e != f {
				t.Fatalf("%s: Circle of %d: %v, turned %v", graphText(g, api.OK), a, one, other)
			}
		}
	})
}

// The order of the edges, and how often they stand there, changes nothing but Turn.
func TestEdgesInAnyOrder(t *testing.T) {
	eachSome(12, func(r *rand.Rand, g api.Graph) {
		other := api.Graph{N: g.N, Edges: slices.Clone(g.Edges)}
		for range min(len(g.Edges), 3) {
			other.Edges = append(other.Edges, g.Edges[r.IntN(len(g.Edges))])
		}
		r.Shuffle(len(other.Edges), func(i, j int) { other.Edges[i], other.Edges[j] = other.Edges[j], other.Edges[i] })
		for name, of := range calls {
			if name != "Turn" {
				want(t, of(other), of(g), name, "of", graphText(g, api.OK))
			}
		}
	})
}
