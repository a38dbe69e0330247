package graph_test

import (
	"math"
	"slices"
	"testing"

	"onceweb/api"
	"onceweb/graph"
)

const heavy = 1 << 40

func TestLongest(t *testing.T) {
	for _, row := range []struct {
		edges   string
		weights []int
		wanted  string
	}{
		{"", []int{7}, "7: 0"},
		{"", []int{0}, "0: 0"},
		{"", []int{0, 0, 0}, "0: 0"},
		{"", []int{1, 2, 2}, "2: 1"},
		{"", []int{1, 2, 3}, "3: 2"},
		{"0-1 1-2", []int{1, 1, 1}, "3: 0 1 2"},
		{"2-1 1-0", []int{1, 1, 1}, "3: 2 1 0"},
		{"0-2 1-2 2-3 0-3", []int{5, 1, 1, 1}, "7: 0 2 3"},
		{"0-2 1-2 2-3 0-3", []int{1, 5, 1, 1}, "7: 1 2 3"},
		{"0-2 1-2 2-3 0-3", []int{5, 0, 0, 1}, "6: 0 2 3"},
		{"0-1 0-2", []int{1, 3, 4}, "5: 0 2"},
		// A way through many against one heavy node.
		{"0-1 1-2", []int{1, 1, 1, 3}, "3: 0 1 2"},
		{"0-1 1-2", []int{1, 1, 1, 4}, "4: 3"},
		{"1-2 2-3", []int{3, 1, 1, 1}, "3: 0"},
		// Of several of the same sum the least, place by place.
		{"0-2 0-1", []int{1, 1, 1}, "2: 0 1"},
		{"1-3 0-2", []int{1, 1, 1, 1}, "2: 0 2"},
		{"0-3 0-1 1-2 2-4 3-4", []int{1, 1, 1, 2, 1}, "4: 0 1 2 4"},
		{"0-1 0-2 1-4 2-3", []int{1, 1, 1, 1, 1}, "3: 0 1 4"},
		{"0-1 0-2 1-3 2-3 3-4 3-5", []int{1, 1, 1, 1, 1, 1}, "4: 0 1 3 4"},
		{"0-5 0-4 4-3 5-3", []int{1, 1, 1, 1, 1, 1}, "3: 0 4 3"},
		// Where nodes have no weight: a beginning ahead of what is longer, but what begins with a lesser node ahead of that.
		{"0-1", []int{0, 0}, "0: 0"},
		{"0-1", []int{1, 0}, "1: 0"},
		{"0-1", []int{0, 1}, "1: 0 1"},
		{"1-0", []int{1, 0}, "1: 0"},
		{"1-0", []int{0, 1}, "1: 1"},
		{"1-0", []int{0, 0}, "0: 0"},
		{"0-1 1-2", []int{0, 0, 1}, "1: 0 1 2"},
		{"0-2 0-1 1-2", []int{0, 0, 1}, "1: 0 1 2"},
		{"0-2 2-1", []int{0, 0, 1}, "1: 0 2"},
		{"0-1 1-2 2-3", []int{0, 1, 0, 1}, "2: 0 1 2 3"},
		{"0-1 1-2 2-3", []int{0, 1, 0, 0}, "1: 0 1"},
		{"0-1 1-2 2-3 1-3", []int{1, 0, 0, 1}, "2: 0 1 2 3"},
		{"0-3 3-2 2-1", []int{1, 0, 0, 1}, "2: 0 3"},
		{"0-1 0-2", []int{1, 0, 0}, "1: 0"},
		{"2-0 2-1", []int{1, 1, 0}, "1: 0"},
		// Edges that stand there twice count once.
		{"0-1 0-1 1-2 1-2", []int{1, 1, 1}, "3: 0 1 2"},
		// Weights at the edges.
		{"", []int{heavy}, "1099511627776: 0"},
		{"0-1", []int{heavy, heavy - 1}, "2199023255551: 0 1"},
		{"", []int{heavy + 1}, "error 1"},
		{"", []int{-1}, "error 1"},
		{"0-1", []int{0, heavy + 1}, "error 1"},
		{"0-1", []int{0, -1}, "error 1"},
		{"0-1", []int{math.MaxInt, math.MaxInt}, "error 1"},
		{"0-1", []int{math.MinInt, 1}, "error 1"},
	} {
		g := graphOf(len(row.weights), row.edges)
		want(t, sumText(graph.Longest(g, row.weights)), row.wanted, "Longest", row.edges, "of", row.weights)
	}
}

// 15.4: too few weights, too many, however many.
func TestWeightsCount(t *testing.T) {
	for _, n := range []int{0, 1, 2, 3, api.MaxItems - 1, api.MaxItems} {
		g := api.Graph{N: n}
		for _, many := range []int{0, 1, n - 1, n + 1, 2 * n, api.MaxItems, api.MaxItems + 1, 1 << 16} {
			if many == n || many < 0 {
				continue
			}
			want(t, sumText(graph.Longest(g, make([]int, many))), "error 1", "Longest of", n, "nodes and", many, "weights")
		}
		if sum, way, e := graph.Longest(g, make([]int, n)); sum != 0 || len(way) != min(n, 1) || e != api.OK {
			t.Errorf("Longest of %d nodes and as many weights: %d, %v, %v", n, sum, way, e)
		}
	}
}

func TestLean(t *testing.T) {
	for _, row := range [][2]string{
		{"", ""},
		{"0-1", "0-1"},
		{"0-1 0-1 0-1", "0-1"},
		{"5-4 3-2 3-1", "3-1 3-2 5-4"},
		{"0-1 1-2 0-2", "0-1 1-2"},
		{"0-2 1-2 0-1", "0-1 1-2"},
		{"0-2 0-2 1-2 0-1", "0-1 1-2"},
		{"0-2 1-2 2-3 0-3", "0-2 1-2 2-3"},
		// Ways around of three edges and more.
		{"0-1 1-2 2-3 0-3", "0-1 1-2 2-3"},
		{"0-1 1-2 2-3 3-4 4-5 0-5", "0-1 1-2 2-3 3-4 4-5"},
		{"5-0 5-4 4-3 3-2 2-1 1-0 4-0 3-1", "1-0 2-1 3-2 4-3 5-4"},
		{"0-1 0-2 0-3 0-4 1-2 1-3 1-4 2-3 2-4 3-4", "0-1 1-2 2-3 3-4"},
		// Ways around that take edges which are left out as well.
		{"0-3 0-2 2-3 0-1 1-2 1-3", "0-1 1-2 2-3"},
		// Two ways of two edges each: none is left out.
		{"0-1 0-2 1-3 2-3", "0-1 0-2 1-3 2-3"},
		{"0-1 0-2 1-3 2-3 0-3", "0-1 0-2 1-3 2-3"},
		{"4-0 4-1 0-2 1-2 2-3 4-3 0-3", "0-2 1-2 2-3 4-0 4-1"},
		{"0-2 1-2 0-3 1-3", "0-2 0-3 1-2 1-3"},
	} {
		want(t, graphText(graph.Lean(graphOf(6, row[0]))), "6: "+row[1], "Lean", row[0])
	}
}

func TestGates(t *testing.T) {
	for _, row := range []struct {
		edges  string
		root   int
		wanted string
	}{
		{"", 0, "-1 -1 -1 -1 -1 -1"},
		{"", 5, "-1 -1 -1 -1 -1 -1"},
		{"0-0", 0, "-1 -1 -1 -1 -1 -1"},
		{"0-1", 0, "-1 0 -1 -1 -1 -1"},
		{"0-1", 1, "-1 -1 -1 -1 -1 -1"},
		{"0-1 1-0", 0, "-1 0 -1 -1 -1 -1"},
		{"0-1 1-0", 1, "1 -1 -1 -1 -1 -1"},
		// All ways go through one, through several.
		{"0-1 1-2 2-3", 0, "-1 0 1 2 -1 -1"},
		{"3-2 2-1 1-0", 3, "1 2 3 -1 -1 -1"},
		{"0-1 1-2 1-3 2-4 3-4 4-5", 0, "-1 0 1 1 1 4"},
		{"5-4 4-3 4-2 3-1 2-1 1-0", 5, "1 4 4 4 5 -1"},
		// Through the root alone.
		{"0-1 0-2 1-3 2-3", 0, "-1 0 0 0 -1 -1"},
		{"0-1 0-2 1-3 2-3 3-4 0-4", 0, "-1 0 0 0 0 -1"},
		{"0-2 1-2 2-3 0-3", 0, "-1 -1 0 0 -1 -1"},
		{"0-2 1-2 2-3 0-3", 1, "-1 -1 1 2 -1 -1"},
		// Nodes that the root has no way to lead in: that does not count.
		{"0-1 1-2 5-2 4-5", 0, "-1 0 1 -1 -1 -1"},
		// It goes round.
		{"0-1 1-2 2-1 2-3", 0, "-1 0 1 2 -1 -1"},
		{"0-1 0-2 1-2 2-1", 0, "-1 0 0 -1 -1 -1"},
		{"0-1 0-2 1-2 2-1 1-3", 0, "-1 0 0 1 -1 -1"},
		{"0-1 1-2 2-3 3-1 3-4", 0, "-1 0 1 2 3 -1"},
		{"0-1 1-2 2-3 3-0", 2, "3 0 -1 2 -1 -1"},
		{"0-1 1-2 2-0 1-3 2-3 3-3 3-1", 0, "-1 0 1 1 -1 -1"},
		{"0-1 0-2 1-3 2-4 3-4 4-3 3-5 4-5", 0, "-1 0 0 0 0 0"},
		{"5-3 3-1 1-3 1-0 0-1 3-0 0-2 1-2 2-4", 5, "3 3 3 5 2 -1"},
		// Edges that stand there twice are no two ways.
		{"0-1 0-1 1-2 1-2", 0, "-1 0 1 -1 -1 -1"},
	} {
		want(t, listText(graph.Gates(graphOf(6, row.edges), row.root)), row.wanted, "Gates", row.edges, "from", row.root)
	}
	want(t, listText(graph.Gates(graphOf(1, "0-0"), 0)), "-1", "Gates of one node")
}

// line is MaxItems nodes in a row, upwards or downwards, with further edges.
func line(down bool, edges ...api.Edge) api.Graph {
	g := api.Graph{N: api.MaxItems}
	for node := range api.MaxItems - 1 {
		edge := api.Edge{From: node, To: node + 1}
		if down {
			edge = api.Edge{From: node + 1, To: node}
		}
		g.Edges = append(g.Edges, edge)
	}
	g.Edges = append(g.Edges, edges...)
	return g
}

func rising(from, to int) []int {
	var l []int
	for n := from; n < to; n++ {
		l = append(l, n)
	}
	return l
}

func falling(from, to int) []int {
	l := rising(from, to)
	slices.Reverse(l)
	return l
}

func TestLongLines(t *testing.T) {
	const n = api.MaxItems
	up, down := line(false), line(true)
	back := line(false, api.Edge{From: n - 1, To: 0})
	weights := slices.Repeat([]int{heavy}, n)
	want(t, listText(graph.Order(up)), numbers(rising(0, n)), "Order upwards")
	want(t, listText(graph.Order(down)), numbers(falling(0, n)), "Order downwards")
	want(t, listText(graph.Levels(up)), numbers(rising(0, n)), "Levels upwards")
	want(t, listText(graph.Levels(down)), numbers(falling(0, n)), "Levels downwards")
	want(t, sumText(graph.Longest(up, weights)), "4503599627370496: "+numbers(rising(0, n)), "Longest upwards")
	want(t, sumText(graph.Longest(down, weights)), "4503599627370496: "+numbers(falling(0, n)), "Longest downwards")
	want(t, listText(graph.Reach(up, []int{9})), numbers(rising(9, n)), "Reach upwards")
	want(t, listText(graph.Reach(down, []int{9})), "0 1 2 3 4 5 6 7 8 9", "Reach downwards")
	want(t, listText(graph.Circle(back, 0)), numbers(rising(0, n)), "Circle")
	want(t, listText(graph.Circle(back, n-1)), numbers(append([]int{n - 1}, rising(0, n-1)...)), "Circle of the last one")
	want(t, listText(graph.Circle(up, 9)), "error 4", "Circle of none")
	want(t, partsText(graph.Components(back)), "["+numbers(rising(0, n))+"]", "Components round")
	want(t, listText(graph.Round(back)), numbers(rising(0, n)), "Round")
	want(t, listText(graph.Round(up)), "", "Round of none")
	want(t, listText(graph.Gates(up, 0)), numbers(rising(-1, n-1)), "Gates upwards")
	want(t, listText(graph.Gates(back, 0)), numbers(rising(-1, n-1)), "Gates round")
	want(t, listText(graph.Order(back)), "error 150", "Order round")
	if parts, e := graph.Components(down); e != api.OK || len(parts) != n || len(parts[n-1]) != 1 || parts[n-1][0] != n-1 {
		t.Errorf("Components downwards: %d, %v", len(parts), e)
	}
}

// TestAllEdges: as many edges as may be, most of them ways around.
func TestAllEdges(t *testing.T) {
	const n = api.MaxItems
	g := line(false)
	for node := range n - 4 {
		for far := 2; far <= 4; far++ {
			g.Edges = append(g.Edges, api.Edge{From: node, To: node + far})
		}
	}
	for len(g.Edges) < 4*n {
		g.Edges = append(g.Edges, api.Edge{From: 0, To: n - 1})
	}
	want(t, graphText(graph.Lean(g)), graphText(line(false), api.OK), "Lean")
	want(t, listText(graph.Levels(g)), numbers(rising(0, n)), "Levels")
	gates := make([]int, n)
	gates[0] = -1
	want(t, listText(graph.Gates(g, 0)), numbers(gates), "Gates")
	g.Edges = append(g.Edges, api.Edge{From: 0, To: 1})
	want(t, graphText(graph.Lean(g)), "error 3", "Lean of one more")
}
