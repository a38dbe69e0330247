package graph_test

import (
	"math/rand/v2"
	"slices"
	"testing"

	"onceweb/api"
	"onceweb/graph"
)

// judge is a second reading of the chapter: a graph as a square of bools, of which all ways are told one by one.
type judge struct {
	n    int
	edge [][]bool
	way  [][]bool // whether there is a way, of one edge or more
}

func square(n int) [][]bool {
	l := make([][]bool, n)
	for i := range l {
		l[i] = make([]bool, n)
	}
	return l
}

func judgeOf(g api.Graph) *judge {
	j := &judge{n: g.N, edge: square(g.N), way: square(g.N)}
	for _, edge := range g.Edges {
		j.edge[edge.From][edge.To] = true
		j.way[edge.From][edge.To] = true
	}
	for by := range j.n {
		for from := range j.n {
			for to := range j.n {
				if j.way[from][by] && j.way[by][to] {
					j.way[from][to] = true
				}
			}
		}
	}
	return j
}

// those are the numbers below n of which something holds.
func those(n int, holds func(i int) bool) []int {
	var l []int
	for i := range n {
		if holds(i) {
			l = append(l, i)
		}
	}
	return l
}

func (j *judge) next(node int) []int {
	return those(j.n, func(to int) bool { return j.edge[node][to] })
}

func (j *judge) reach(from []int) []int {
	return those(j.n, func(to int) bool {
		return slices.ContainsFunc(from, func(node int) bool { return node == to || j.way[node][to] })
	})
}

func (j *judge) together(a, b int) bool { return a == b || j.way[a][b] && j.way[b][a] }

func (j *judge) components() [][]int {
	var parts [][]int
	for node := range j.n {
		part := those(j.n, func(other int) bool { return j.together(node, other) })
		if part[0] == node {
			parts = append(parts, part)
		}
	}
	return parts
}

func (j *judge) round() []int {
	return those(j.n, func(node int) bool { return j.way[node][node] })
}

// waysOf tells, in their order place by place, all lists of so many nodes that begin with l, each leading to the next one; till tell is done.
func (j *judge) waysOf(l []int, many int, tell func(l []int) bool) bool {
	if len(l) == many {
		return tell(l)
	}
	for to := range j.n {
		if j.edge[l[len(l)-1]][to] && j.waysOf(append(l, to), many, tell) {
			return true
		}
	}
	return false
}

func (j *judge) circle(node int) ([]int, api.Errno) {
	for many := 1; many <= j.n; many++ {
		var found []int
		if j.waysOf([]int{node}, many, func(l []int) bool {
			found = slices.Clone(l)
			return j.edge[l[many-1]][node]
		}) {
			return found, api.OK
		}
	}
	return nil, api.ErrNone
}

// order takes, place by place, the least node behind all that have a way to it.
func (j *judge) order() ([]int, api.Errno) {
	if len(j.round()) > 0 {
		return nil, api.ErrRound
	}
	var l []int
	for range j.n {
		may := those(j.n, func(node int) bool {
			return !slices.Contains(l, node) && len(those(j.n, func(from int) bool {
				return j.way[from][node] && !slices.Contains(l, from)
			})) == 0
		})
		l = append(l, may[0])
	}
	return l, api.OK
}

func (j *judge) level(node int) int {
	most := 0
	for from := range j.n {
		if j.edge[from][node] {
			most = max(most, j.level(from)+1)
		}
	}
	return most
}

func (j *judge) levels() ([]int, api.Errno) {
	if len(j.round()) > 0 {
		return nil, api.ErrRound
	}
	l := make([]int, j.n)
	for node := range l {
		l[node] = j.level(node)
	}
	return l, api.OK
}

// eachWay tells all ways that begin with l, and l itself: where nothing goes round.
func (j *judge) eachWay(l []int, tell func(l []int)) {
	tell(l)
	for to := range j.n {
		if j.edge[l[len(l)-1]][to] {
			j.eachWay(append(l, to), tell)
		}
	}
}

func (j *judge) longest(weights []int) (int, []int, api.Errno) {
	if len(j.round()) > 0 {
		return 0, nil, api.ErrRound
	}
	most, best := 0, []int(nil)
	for node := range j.n {
		j.eachWay([]int{node}, func(l []int) {
			sum := 0
			for _, at := range l {
				sum += weights[at]
			}
			if best == nil || sum > most || sum == most && slices.Compare(l, best) < 0 {
				most, best = sum, slices.Clone(l)
			}
		})
	}
	return most, best, api.OK
}

func (j *judge) lean() (api.Graph, api.Errno) {
	if len(j.round()) > 0 {
		return api.Graph{}, api.ErrRound
	}
	g := api.Graph{N: j.n}
	for from := range j.n {
		for _, to := range j.next(from) {
			if !slices.ContainsFunc(j.next(from), func(by int) bool { return j.way[by][to] }) {
				g.Edges = append(g.Edges, api.Edge{From: from, To: to})
			}
		}
	}
	return g, api.OK
}

// simple tells all ways from l's end to a node that go through no node twice.
func (j *judge) simple(l []int, node int, tell func(l []int)) {
	if l[len(l)-1] == node {
		tell(l)
		return
	}
	for to := range j.n {
		if j.edge[l[len(l)-1]][to] && !slices.Contains(l, to) {
			j.simple(append(l, to), node, tell)
		}
	}
}

// gate is, of what one way goes through, the last one that all go through; a way that goes through a node twice goes through no less than one that does not.
func (j *judge) gate(root, node int) int {
	if root == node || !j.way[root][node] {
		return -1
	}
	var all []int
	j.simple([]int{root}, node, func(l []int) {
		if all == nil {
			all = slices.Clone(l)
		}
		all = slices.DeleteFunc(all, func(at int) bool { return !slices.Contains(l, at) })
	})
	return all[len(all)-2]
}

func (j *judge) gates(root int) []int {
	l := make([]int, j.n)
	for node := range l {
		l[node] = j.gate(root, node)
	}
	return l
}

// wantJudged holds what all calls tell of a graph against the judge.
func wantJudged(t *testing.T, g api.Graph, from []int, weights ...[]int) {
	t.Helper()
	j := judgeOf(g)
	same := func(what, got, wanted string) {
		if got != wanted {
			t.Helper()
			t.Fatalf("%s of %s (from %v, weights %v): %s, want %s", what, graphText(g, api.OK), from, weights, got, wanted)
		}
	}
	same("Check", checkText(graph.Check(g)), "ok")
	same("Reach", listText(graph.Reach(g, from)), listText(j.reach(from), api.OK))
	same("Components", partsText(graph.Components(g)), partsText(j.components(), api.OK))
	same("Round", listText(graph.Round(g)), listText(j.round(), api.OK))
	same("Order", listText(graph.Order(g)), listText(j.order()))
	same("Levels", listText(graph.Levels(g)), listText(j.levels()))
	for _, l := range weights {
		same("Longest", sumText(graph.Longest(g, l)), sumText(j.longest(l)))
	}
	same("Lean", graphText(graph.Lean(g)), graphText(j.lean()))
	for node := range g.N {
		same("Next", listText(graph.Next(g, node)), listText(j.next(node), api.OK))
		same("Circle", listText(graph.Circle(g, node)), listText(j.circle(node)))
		same("Gates", listText(graph.Gates(g, node)), listText(j.gates(node), api.OK))
	}
}

// eachGraph tells all graphs of n nodes without edges that stand there twice.
func eachGraph(n int, tell func(g api.Graph)) {
	for bits := range 1 << (n * n) {
		g := api.Graph{N: n}
		for i := range n * n {
			if bits>>i&1 == 1 {
				g.Edges = append(g.Edges, api.Edge{From: i / n, To: i % n})
			}
		}
		tell(g)
	}
}

// eachList tells all lists of n numbers below most.
func eachList(n, most int, tell func(l []int)) {
	l := make([]int, n)
	for {
		tell(l)
		i := 0
		for i < n && l[i] == most-1 {
			l[i] = 0
			i++
		}
		if i == n {
			return
		}
		l[i]++
	}
}

// TestAllSmallGraphs: all graphs of up to 4 nodes; those of up to 3 from all lists of 2 nodes, with all weights below 3.
func TestAllSmallGraphs(t *testing.T) {
	for n := range 4 {
		var weights [][]int
		eachList(n, 3, func(l []int) { weights = append(weights, slices.Clone(l)) })
		eachGraph(n, func(g api.Graph) {
			wantJudged(t, g, nil, weights...)
			for from := range n {
				wantJudged(t, g, []int{from})
				wantJudged(t, g, []int{from, (from + 1) % n})
			}
		})
	}
	r := rand.New(rand.NewPCG(15, 4))
	eachGraph(4, func(g api.Graph) {
		wantJudged(t, g, []int{r.IntN(4)}, []int{1, 1, 1, 1}, []int{r.IntN(3), r.IntN(3), r.IntN(3), r.IntN(3)})
	})
}

// TestAllSmallLeans: all graphs of 5 nodes whose edges lead upwards, with their nodes named anew.
func TestAllSmallLeans(t *testing.T) {
	r := rand.New(rand.NewPCG(15, 5))
	for bits := range 1 << 10 {
		for range 6 {
			g, named := api.Graph{N: 5}, r.Perm(5)
			i := 0
			for from := range 5 {
				for to := from + 1; to < 5; to++ {
					if bits>>i&1 == 1 {
						g.Edges = append(g.Edges, api.Edge{From: named[from], To: named[to]})
					}
					i++
				}
			}
			r.Shuffle(len(g.Edges), func(i, j int) { g.Edges[i], g.Edges[j] = g.Edges[j], g.Edges[i] })
			wantJudged(t, g, nil, someWeights(r, 5), someWeights(r, 5))
		}
	}
}

func someWeights(r *rand.Rand, n int) []int {
	l := make([]int, n)
	for i := range l {
		switch r.IntN(4) {
		case 0:
			l[i] = 0
		case 1:
			l[i] = heavy - r.IntN(2)
		default:
			l[i] = r.IntN(3)
		}
	}
	return l
}

// someGraph is a graph of up to n nodes and edges; it may go round or not, and edges may stand there more than once.
func someGraph(r *rand.Rand, n, edges int) api.Graph {
	g := api.Graph{N: 1 + r.IntN(n)}
	named, straight := r.Perm(g.N), r.IntN(2) == 0
	for range r.IntN(edges + 1) {
		from, to := r.IntN(g.N), r.IntN(g.N)
		if straight && from >= to {
			from, to = to, from
		}
		if straight && from == to {
			continue
		}
		g.Edges = append(g.Edges, api.Edge{From: named[from], To: named[to]})
		if r.IntN(8) == 0 {
			g.Edges = append(g.Edges, g.Edges[r.IntN(len(g.Edges))])
		}
	}
	return g
}

func someNodes(r *rand.Rand, n int) []int {
	l := make([]int, r.IntN(4))
	for i := range l {
		l[i] = r.IntN(n)
	}
	return l
}

func TestGraphsByChance(t *testing.T) {
	r := rand.New(rand.NewPCG(15, 6))
	for range 6000 {
		g := someGraph(r, 9, 16)
		wantJudged(t, g, someNodes(r, g.N), someWeights(r, g.N), someWeights(r, g.N))
	}
}
