package graph_test

import (
	"fmt"
	"math"
	"slices"
	"strconv"
	"strings"
	"testing"

	"onceweb/api"
	"onceweb/graph"
)

// graphOf reads a graph: how many nodes it has, and its edges (0-1: from 0 to 1).
func graphOf(n int, edges string) api.Graph {
	g := api.Graph{N: n}
	for word := range strings.FieldsSeq(edges) {
		from, to, ok := strings.Cut(word, "-")
		if !ok {
			panic(edges)
		}
		g.Edges = append(g.Edges, api.Edge{From: number(from), To: number(to)})
	}
	return g
}

func number(s string) int {
	n, err := strconv.Atoi(s)
	if err != nil {
		panic(s)
	}
	return n
}

func numbers(l []int) string {
	var b []byte
	for i, n := range l {
		if i > 0 {
			b = append(b, ' ')
		}
		b = strconv.AppendInt(b, int64(n), 10)
	}
	return string(b)
}

func edgesText(l []api.Edge) string {
	var b []byte
	for i, edge := range l {
		if i > 0 {
			b = append(b, ' ')
		}
		b = strconv.AppendInt(b, int64(edge.From), 10)
		b = append(b, '-')
		b = strconv.AppendInt(b, int64(edge.To), 10)
	}
	return string(b)
}

func checkText(e api.Errno) string {
	if e == api.OK {
		return "ok"
	}
	return e.Error()
}

// listText is a list that was answered, or the error; a list beside one is odd.
func listText(l []int, e api.Errno) string {
	switch {
	case e == api.OK:
		return numbers(l)
	case len(l) > 0:
		return "odd: " + numbers(l) + " " + e.Error()
	}
	return e.Error()
}

func partsText(l [][]int, e api.Errno) string {
	var words []string
	for _, part := range l {
		words = append(words, "["+numbers(part)+"]")
	}
	switch {
	case e == api.OK:
		return strings.Join(words, " ")
	case len(l) > 0:
		return "odd: " + strings.Join(words, " ") + " " + e.Error()
	}
	return e.Error()
}

func graphText(g api.Graph, e api.Errno) string {
	s := strconv.Itoa(g.N) + ": " + edgesText(g.Edges)
	switch {
	case e == api.OK:
		return s
	case g.N != 0 || len(g.Edges) > 0:
		return "odd: " + s + " " + e.Error()
	}
	return e.Error()
}

func sumText(sum int, way []int, e api.Errno) string {
	s := strconv.Itoa(sum) + ": " + numbers(way)
	switch {
	case e == api.OK:
		return s
	case sum != 0 || len(way) > 0:
		return "odd: " + s + " " + e.Error()
	}
	return e.Error()
}

func want(t *testing.T, got, wanted string, what ...any) {
	t.Helper()
	if got != wanted {
		t.Errorf("%s: %s, want %s", strings.TrimSpace(fmt.Sprintln(what...)), got, wanted)
	}
}

// calls are all calls, with what is right besides in a graph that has a node.
var calls = map[string]func(g api.Graph) string{
	"Check":      func(g api.Graph) string { return checkText(graph.Check(g)) },
	"Next":       func(g api.Graph) string { return listText(graph.Next(g, 0)) },
	"Reach":      func(g api.Graph) string { return listText(graph.Reach(g, []int{0})) },
	"Components": func(g api.Graph) string { return partsText(graph.Components(g)) },
	"Round":      func(g api.Graph) string { return listText(graph.Round(g)) },
	"Circle":     func(g api.Graph) string { return listText(graph.Circle(g, 0)) },
	"Order":      func(g api.Graph) string { return listText(graph.Order(g)) },
	"Levels":     func(g api.Graph) string { return listText(graph.Levels(g)) },
	"Longest": func(g api.Graph) string {
		return sumText(graph.Longest(g, make([]int, max(0, min(g.N, 1<<13)))))
	},
	"Lean":  func(g api.Graph) string { return graphText(graph.Lean(g)) },
	"Gates": func(g api.Graph) string { return listText(graph.Gates(g, 0)) },
	"Turn":  func(g api.Graph) string { return graphText(graph.Turn(g)) },
}

// wrongBesides are calls with something wrong besides the graph, whose own error comes ahead of that.
var wrongBesides = map[string]func(g api.Graph) string{
	"Next -1":      func(g api.Graph) string { return listText(graph.Next(g, -1)) },
	"Reach -1":     func(g api.Graph) string { return listText(graph.Reach(g, []int{-1})) },
	"Reach long":   func(g api.Graph) string { return listText(graph.Reach(g, make([]int, api.MaxItems+1))) },
	"Circle -1":    func(g api.Graph) string { return listText(graph.Circle(g, -1)) },
	"Gates -1":     func(g api.Graph) string { return listText(graph.Gates(g, -1)) },
	"Longest -1":   func(g api.Graph) string { return sumText(graph.Longest(g, []int{-1})) },
	"Longest long": func(g api.Graph) string { return sumText(graph.Longest(g, make([]int, 1<<15))) },
}

// many is a graph of that many edges, all the same but the last one.
func many(n, edges int, all, last api.Edge) api.Graph {
	g := api.Graph{N: n, Edges: slices.Repeat([]api.Edge{all}, edges)}
	if edges > 0 {
		g.Edges[edges-1] = last
	}
	return g
}

// 15.1: what is no right graph is told by all calls, ahead of all else.
func TestWrongGraphs(t *testing.T) {
	fine, far, low := api.Edge{From: 0, To: 1}, api.Edge{From: 0, To: api.MaxItems}, api.Edge{From: -1, To: 0}
	const all = 4 * api.MaxItems
	rows := []struct {
		what   string
		g      api.Graph
		wanted api.Errno
	}{
		{"-1 nodes", api.Graph{N: -1}, api.ErrRange},
		{"one too many nodes", api.Graph{N: api.MaxItems + 1}, api.ErrRange},
		{"far too many nodes", api.Graph{N: math.MaxInt}, api.ErrRange},
		{"far too few nodes", api.Graph{N: math.MinInt}, api.ErrRange},
		{"-1 nodes, an end that would be one", graphOf(-1, "0-0"), api.ErrRange},
		{"too many nodes, too many edges", many(api.MaxItems+1, all+1, fine, fine), api.ErrRange},
		{"-1 nodes, too many edges", many(-1, all+1, fine, low), api.ErrRange},
		{"one edge too many", many(2, all+1, fine, fine), api.ErrLong},
		{"one edge too many, of MaxItems nodes", many(api.MaxItems, all+1, fine, fine), api.ErrLong},
		{"far too many edges", many(2, 1<<17, fine, fine), api.ErrLong},
		{"one edge too many, the last one none", many(2, all+1, fine, far), api.ErrLong},
		{"one edge too many, all but the last one none", many(2, all+1, low, fine), api.ErrLong},
		{"one edge too many, no node", many(0, all+1, fine, fine), api.ErrLong},
		{"as many edges as may be, the last one none", many(2, all, fine, far), api.ErrRange},
		{"as many edges as may be, the first ones none", many(2, all, low, fine), api.ErrRange},
		{"an edge without nodes", graphOf(0, "0-0"), api.ErrRange},
		{"to N", graphOf(3, "0-1 1-2 2-3"), api.ErrRange},
		{"from N", graphOf(3, "3-2 1-2"), api.ErrRange},
		{"N to N", graphOf(1, "1-1"), api.ErrRange},
		{"to beyond", graphOf(3, "0-1 1-2000"), api.ErrRange},
		{"MaxItems", many(api.MaxItems, 9, fine, far), api.ErrRange},
		{"to -1", api.Graph{N: 3, Edges: []api.Edge{fine, {From: 0, To: -1}}}, api.ErrRange},
		{"from -1", api.Graph{N: 3, Edges: []api.Edge{low}}, api.ErrRange},
		{"to the greatest", api.Graph{N: 3, Edges: []api.Edge{{From: 0, To: math.MaxInt}}}, api.ErrRange},
		{"from the least", api.Graph{N: 3, Edges: []api.Edge{{From: math.MinInt, To: 0}}}, api.ErrRange},
		{"goes round, and leads out", graphOf(3, "0-0 1-1 2-2 2-3"), api.ErrRange},
	}
	for _, row := range rows {
		for name, of := range calls {
			want(t, of(row.g), row.wanted.Error(), name, "of", row.what)
		}
		for name, of := range wrongBesides {
			want(t, of(row.g), row.wanted.Error(), name, "of", row.what)
		}
	}
}

// 15.1: graphs at the edges that are right.
func TestRightGraphs(t *testing.T) {
	for _, row := range []struct {
		what string
		g    api.Graph
	}{
		{"no node", api.Graph{}},
		{"no node, an empty list", api.Graph{Edges: []api.Edge{}}},
		{"one node", graphOf(1, "")},
		{"one node, to itself", graphOf(1, "0-0 0-0")},
		{"two nodes", graphOf(2, "0-1 1-0 1-1")},
		{"MaxItems nodes", graphOf(api.MaxItems, "4095-0 0-4095 4095-4095")},
		{"as many edges as may be", many(2, 4*api.MaxItems, api.Edge{From: 0, To: 1}, api.Edge{From: 1, To: 0})},
		{"as many edges as may be, of one node", many(1, 4*api.MaxItems, api.Edge{}, api.Edge{})},
		{"all of both", many(api.MaxItems, 4*api.MaxItems, api.Edge{From: 0, To: 1}, api.Edge{From: 4095, To: 4095})},
	} {
		want(t, checkText(graph.Check(row.g)), "ok", row.what)
	}
}

// What the calls tell of a graph without nodes.
func TestNoNodes(t *testing.T) {
	wanted := map[string]string{
		"Check": "ok", "Next": "error 1", "Reach": "error 1", "Circle": "error 1", "Gates": "error 1",
		"Longest": "0: ", "Lean": "0: ", "Turn": "0: ",
	}
	for _, g := range []api.Graph{{}, {Edges: []api.Edge{}}} {
		for name, of := range calls {
			want(t, of(g), wanted[name], name)
		}
		want(t, listText(graph.Reach(g, nil)), "", "Reach of none")
		want(t, sumText(graph.Longest(g, nil)), "0: ", "Longest without weights")
		want(t, sumText(graph.Longest(g, []int{1})), "error 1", "Longest of one weight")
	}
}

// Nodes that are none.
func TestNoSuchNode(t *testing.T) {
	for _, row := range []struct {
		g     api.Graph
		nodes []int
	}{
		{graphOf(0, ""), []int{0, -1, 1}},
		{graphOf(1, "0-0"), []int{1, -1, 2}},
		{graphOf(3, "0-1 1-2 2-0"), []int{3, -1, 4, -3, 4096, math.MaxInt, math.MinInt, 1 << 32, 1 << 62}},
		{graphOf(api.MaxItems, "0-0"), []int{api.MaxItems, -1, api.MaxItems + 1}},
	} {
		for _, node := range row.nodes {
			want(t, listText(graph.Next(row.g, node)), "error 1", "Next", node, "of", row.g.N)
			want(t, listText(graph.Circle(row.g, node)), "error 1", "Circle", node, "of", row.g.N)
			want(t, listText(graph.Gates(row.g, node)), "error 1", "Gates", node, "of", row.g.N)
			want(t, listText(graph.Reach(row.g, []int{node})), "error 1", "Reach", node, "of", row.g.N)
		}
	}
}

func TestNext(t *testing.T) {
	for _, row := range []struct {
		n      int
		edges  string
		node   int
		wanted string
	}{
		{1, "", 0, ""},
		{1, "0-0", 0, "0"},
		{1, "0-0 0-0 0-0", 0, "0"},
		{3, "0-1 1-2", 0, "1"},
		{3, "0-1 1-2", 2, ""},
		{4, "0-3 0-2 1-0 0-1", 0, "1 2 3"},
		{4, "0-3 0-1 0-3 0-1 0-1 2-2", 0, "1 3"},
		{4, "3-3 3-0 3-2 0-3", 3, "0 2 3"},
		{11, "5-10 5-9 5-2", 5, "2 9 10"},
	} {
		want(t, listText(graph.Next(graphOf(row.n, row.edges), row.node)), row.wanted, "Next", row.n, row.edges, "of", row.node)
	}
}

func TestTurn(t *testing.T) {
	for _, row := range [][2]string{
		{"", ""},
		{"0-1", "1-0"},
		{"0-0", "0-0"},
		{"3-1 0-2 3-1 2-2 1-3", "1-3 2-0 1-3 2-2 3-1"},
	} {
		want(t, graphText(graph.Turn(graphOf(4, row[0]))), "4: "+row[1], "Turn", row[0])
	}
	want(t, graphText(graph.Turn(graphOf(9, ""))), "9: ", "Turn of nodes alone")
	g := many(2, 4*api.MaxItems, api.Edge{From: 0, To: 1}, api.Edge{From: 1, To: 1})
	back, e := graph.Turn(g)
	if e != api.OK || back.N != 2 || len(back.Edges) != len(g.Edges) || back.Edges[0] != (api.Edge{From: 1, To: 0}) || back.Edges[len(g.Edges)-2] != back.Edges[0] {
		t.Errorf("Turn of as many edges as may be: %d of %d, %v", len(back.Edges), len(g.Edges), e)
	}
}

func TestReach(t *testing.T) {
	for _, row := range []struct {
		edges  string
		from   []int
		wanted string
	}{
		{"", nil, ""},
		{"0-1", []int{}, ""},
		{"", []int{5}, "5"},
		{"", []int{5, 0, 3}, "0 3 5"},
		{"0-1 1-2", []int{0}, "0 1 2"},
		{"0-1 1-2", []int{0, 0}, "0 1 2"},
		{"0-1 1-2", []int{2, 0, 2}, "0 1 2"},
		{"0-1 1-2", []int{2}, "2"},
		{"0-1 1-2", []int{1, 2, 1}, "1 2"},
		{"5-4 4-3 3-2", []int{5}, "2 3 4 5"},
		{"5-0 5-1 0-2 1-2 2-5", []int{1}, "0 1 2 5"},
		{"0-0", []int{0}, "0"},
		{"0-1 1-0 2-3 3-4", []int{0, 3}, "0 1 3 4"},
		{"0-1 1-0 2-3 3-4", []int{4, 1}, "0 1 4"},
		{"", []int{6}, "error 1"},
		{"", []int{-1}, "error 1"},
		{"", []int{0, 1, 2, 6}, "error 1"},
		{"", []int{0, -1, 2}, "error 1"},
	} {
		want(t, listText(graph.Reach(graphOf(6, row.edges), row.from)), row.wanted, "Reach", row.edges, "from", row.from)
	}
}

// 15.2: from may have MaxItems members, and no more; that comes ahead of what they are.
func TestReachOfMany(t *testing.T) {
	g := graphOf(3, "0-1")
	from := make([]int, api.MaxItems+1)
	want(t, listText(graph.Reach(g, from[:api.MaxItems])), "0 1", "Reach of MaxItems")
	want(t, listText(graph.Reach(g, from)), "error 3", "Reach of one more")
	want(t, listText(graph.Reach(g, make([]int, 1<<16))), "error 3", "Reach of far more")
	from[api.MaxItems-1] = 2
	want(t, listText(graph.Reach(g, from[:api.MaxItems])), "0 1 2", "Reach of MaxItems, the last one another")
	from[api.MaxItems-1] = 3
	want(t, listText(graph.Reach(g, from[:api.MaxItems])), "error 1", "Reach of MaxItems, the last one none")
	want(t, listText(graph.Reach(g, from)), "error 3", "Reach of one more, one of them none")
	from[0] = -1
	want(t, listText(graph.Reach(g, from)), "error 3", "Reach of one more, the first one none")
}

func TestComponentsAndRound(t *testing.T) {
	for _, row := range []struct {
		n            int
		edges        string
		parts, round string
	}{
		{1, "", "[0]", ""},
		{1, "0-0", "[0]", "0"},
		{3, "", "[0] [1] [2]", ""},
		{3, "1-1", "[0] [1] [2]", "1"},
		{3, "0-1 1-2", "[0] [1] [2]", ""},
		{3, "2-1 1-0", "[0] [1] [2]", ""},
		{3, "0-1 1-2 2-0", "[0 1 2]", "0 1 2"},
		{3, "0-2 2-1 1-0", "[0 1 2]", "0 1 2"},
		{3, "0-1 1-0 1-2 2-1", "[0 1 2]", "0 1 2"},
		{4, "0-1 1-2 2-1 2-3", "[0] [1 2] [3]", "1 2"},
		{4, "0-3 3-0 1-2 2-1", "[0 3] [1 2]", "0 1 2 3"},
		{4, "0-3 3-0 1-2 2-1 0-1", "[0 3] [1 2]", "0 1 2 3"},
		{4, "0-3 3-0 1-2 2-1 2-3 1-0", "[0 3] [1 2]", "0 1 2 3"},
		{4, "0-3 3-0 1-2 2-1 2-3 0-1", "[0 1 2 3]", "0 1 2 3"},
		// On ways to a circle, from one, and between two.
		{6, "0-1 1-2 2-1 2-3 3-4 4-5 5-4", "[0] [1 2] [3] [4 5]", "1 2 4 5"},
		{6, "5-4 4-3 3-4 3-2 2-1 1-0 0-1", "[0 1] [2] [3 4] [5]", "0 1 3 4"},
		{6, "0-5 5-0 0-2 2-4 4-2 4-3 3-3", "[0 5] [1] [2 4] [3]", "0 2 3 4 5"},
		{5, "0-1 0-1 1-0 1-0 2-2 2-2 3-4", "[0 1] [2] [3] [4]", "0 1 2"},
		{12, "11-2 2-10 10-11 1-11 10-3", "[0] [1] [2 10 11] [3] [4] [5] [6] [7] [8] [9]", "2 10 11"},
	} {
		g := graphOf(row.n, row.edges)
		want(t, partsText(graph.Components(g)), row.parts, "Components", row.n, row.edges)
		want(t, listText(graph.Round(g)), row.round, "Round", row.n, row.edges)
	}
}

func TestCircle(t *testing.T) {
	for _, row := range []struct {
		edges  string
		node   int
		wanted string
	}{
		{"", 0, "error 4"},
		{"0-1 1-2", 0, "error 4"},
		{"0-0", 0, "0"},
		{"0-0", 1, "error 4"},
		{"0-1 1-0 0-0", 0, "0"},
		{"0-1 1-0 0-0", 1, "1 0"},
		{"0-1 1-2 2-0", 0, "0 1 2"},
		{"0-1 1-2 2-0", 1, "1 2 0"},
		{"0-1 1-2 2-0", 2, "2 0 1"},
		// On a way to a circle, and from one.
		{"0-1 1-2 2-1 2-3", 0, "error 4"},
		{"0-1 1-2 2-1 2-3", 1, "1 2"},
		{"0-1 1-2 2-1 2-3", 3, "error 4"},
		{"0-1 1-1", 0, "error 4"},
		{"1-1 1-0", 0, "error 4"},
		// Of several of one length: the least, place by place.
		{"0-2 2-0 0-1 1-0", 0, "0 1"},
		{"0-5 5-0 0-3 3-0 0-4 4-0", 0, "0 3"},
		{"0-1 1-5 5-0 0-2 2-3 3-0", 0, "0 1 5"},
		{"0-1 1-5 5-0 1-4 4-0 0-2 2-3 3-0", 0, "0 1 4"},
		{"3-5 5-0 0-3 3-4 4-1 1-3 4-2 2-3", 3, "3 4 1"},
		{"0-1 0-2 1-4 2-3 4-5 3-5 5-0", 0, "0 1 4 5"},
		{"0-1 0-2 1-3 2-3 3-5 3-4 4-0 5-0", 0, "0 1 3 4"},
		// A shorter one ahead of a lesser one.
		{"0-1 1-2 2-0 0-5 5-0", 0, "0 5"},
		{"0-1 1-2 2-3 3-0 0-4 4-5 5-0", 0, "0 4 5"},
		{"0-1 1-3 3-4 4-5 5-0 1-5", 0, "0 1 5"},
		{"0-1 1-2 2-1 1-5 5-0", 0, "0 1 5"},
		// A lesser next one that leads nowhere, or only to another circle.
		{"0-1 0-2 2-0", 0, "0 2"},
		{"0-1 1-3 3-1 0-2 2-0", 0, "0 2"},
		{"5-4 4-5 5-0 0-0", 5, "5 4"},
		// What stands there twice.
		{"0-1 0-1 1-0 1-0", 0, "0 1"},
	} {
		want(t, listText(graph.Circle(graphOf(6, row.edges), row.node)), row.wanted, "Circle", row.edges, "of", row.node)
	}
}

func TestOrderAndLevels(t *testing.T) {
	for _, row := range []struct {
		n             int
		edges         string
		order, levels string
	}{
		{1, "", "0", "0"},
		{3, "", "0 1 2", "0 0 0"},
		{3, "2-1 1-0", "2 1 0", "2 1 0"},
		{3, "2-0", "1 2 0", "1 0 0"},
		{3, "1-0", "1 0 2", "1 0 0"},
		{4, "0-2 1-2 2-3 0-3", "0 1 2 3", "0 0 1 2"},
		{4, "3-0 3-1", "2 3 0 1", "1 1 0 0"},
		{4, "3-0 2-1", "2 1 3 0", "1 1 0 0"},
		{4, "3-0 3-0 3-0", "1 2 3 0", "1 0 0 0"},
		{5, "4-0 0-1 2-1 4-3", "2 4 0 1 3", "1 2 0 1 0"},
		{6, "5-0 1-4 4-0 3-2", "1 3 2 4 5 0", "2 0 1 0 1 0"},
		// Ways of different lengths: the longest counts, wherever its edges stand.
		{5, "0-4 0-1 1-2 2-3 3-4", "0 1 2 3 4", "0 1 2 3 4"},
		{5, "3-4 2-3 1-2 0-1 0-4", "0 1 2 3 4", "0 1 2 3 4"},
		{5, "4-0 4-1 1-0 1-2 2-0 3-0", "3 4 1 2 0", "3 1 2 0 0"},
		{6, "0-5 0-1 1-5 2-3 3-4 4-5", "0 1 2 3 4 5", "0 1 0 1 2 3"},
		{12, "11-10 10-2 9-2", "0 1 3 4 5 6 7 8 9 11 10 2", "0 0 2 0 0 0 0 0 0 0 1 0"},
	} {
		g := graphOf(row.n, row.edges)
		want(t, listText(graph.Order(g)), row.order, "Order", row.n, row.edges)
		want(t, listText(graph.Levels(g)), row.levels, "Levels", row.n, row.edges)
	}
}

// 15.3, 15.4, 15.5: a node that has a way to itself.
func TestErrRound(t *testing.T) {
	for _, row := range []struct {
		n     int
		edges string
	}{
		{1, "0-0"},
		{2, "0-1 1-0"},
		{2, "0-1 1-1"},
		{2, "0-1 0-0"},
		{4, "0-1 1-2 2-1 2-3"},
		{4, "0-1 1-2 2-3 3-0"},
		{4, "0-1 1-2 3-3"},
		{5, "1-2 2-3 3-1 0-4"},
		{api.MaxItems, "0-1 4095-4095"},
	} {
		g := graphOf(row.n, row.edges)
		weights := make([]int, row.n)
		want(t, listText(graph.Order(g)), "error 150", "Order", row.n, row.edges)
		want(t, listText(graph.Levels(g)), "error 150", "Levels", row.n, row.edges)
		want(t, sumText(graph.Longest(g, weights)), "error 150", "Longest", row.n, row.edges)
		want(t, graphText(graph.Lean(g)), "error 150", "Lean", row.n, row.edges)
		// Weights that are wrong come ahead of it.
		want(t, sumText(graph.Longest(g, weights[1:])), "error 1", "Longest, too few", row.n, row.edges)
		want(t, sumText(graph.Longest(g, append(weights, 0))), "error 1", "Longest, too many", row.n, row.edges)
		weights[row.n-1] = -1
		want(t, sumText(graph.Longest(g, weights)), "error 1", "Longest, one below 0", row.n, row.edges)
	}
}

func TestExamples(t *testing.T) {
	g := graphOf(4, "0-1 1-2 2-1 2-3")
	want(t, partsText(graph.Components(g)), "[0] [1 2] [3]", "Components")
	want(t, listText(graph.Round(g)), "1 2", "Round")
	want(t, listText(graph.Circle(g, 1)), "1 2", "Circle")
	want(t, listText(graph.Order(g)), "error 150", "Order")
	h := graphOf(4, "0-2 1-2 2-3 0-3")
	want(t, listText(graph.Order(h)), "0 1 2 3", "Order")
	want(t, listText(graph.Levels(h)), "0 0 1 2", "Levels")
	want(t, graphText(graph.Lean(h)), "4: 0-2 1-2 2-3", "Lean")
	want(t, sumText(graph.Longest(h, []int{5, 1, 1, 1})), "7: 0 2 3", "Longest")
	want(t, listText(graph.Gates(h, 0)), "-1 -1 0 0", "Gates")
}
