package graph_test

import (
	"fmt"
	"math/rand/v2"
	"slices"
	"testing"

	"onceweb/api"
	"onceweb/graph"
)

// R3: what is handed in is not changed, spare room too; what is answered is new memory, spare room too.

// answer is what a call told: its lists, and its edges.
type answer struct {
	lists [][]int
	edges []api.Edge
}

func (a answer) text() string {
	var s string
	for _, l := range a.lists {
		s += "[" + numbers(l) + "]"
	}
	return s + edgesText(a.edges)
}

// scribble writes over all of an answer, its spare room too.
func (a answer) scribble() {
	for _, l := range a.lists {
		scribble(l)
	}
	whole := a.edges[:cap(a.edges)]
	for i := range whole {
		whole[i] = api.Edge{From: -9, To: -9}
	}
}

func scribble(l []int) {
	l = l[:cap(l)]
	for i := range l {
		l[i] = -9
	}
}

// args are what calls are given.
type args struct {
	g       api.Graph
	node    int
	from    []int
	weights []int
}

func one(l []int) answer { return answer{lists: [][]int{l}} }

// answers are the calls that answer lists, what they are given taken as it is.
var answers = map[string]func(a args) answer{
	"Next":       func(a args) answer { l, _ := graph.Next(a.g, a.node); return one(l) },
	"Reach":      func(a args) answer { l, _ := graph.Reach(a.g, a.from); return one(l) },
	"Components": func(a args) answer { l, _ := graph.Components(a.g); return answer{lists: l} },
	"Round":      func(a args) answer { l, _ := graph.Round(a.g); return one(l) },
	"Circle":     func(a args) answer { l, _ := graph.Circle(a.g, a.node); return one(l) },
	"Order":      func(a args) answer { l, _ := graph.Order(a.g); return one(l) },
	"Levels":     func(a args) answer { l, _ := graph.Levels(a.g); return one(l) },
	"Longest":    func(a args) answer { _, l, _ := graph.Longest(a.g, a.weights); return one(l) },
	"Lean":       func(a args) answer { g, _ := graph.Lean(a.g); return answer{edges: g.Edges} },
	"Gates":      func(a args) answer { l, _ := graph.Gates(a.g, a.node); return one(l) },
	"Turn":       func(a args) answer { g, _ := graph.Turn(a.g); return answer{edges: g.Edges} },
}

// roomy is the same arguments, with spare room that has something in it.
func (a args) roomy() args {
	edges := append(slices.Clone(a.g.Edges), slices.Repeat([]api.Edge{{From: 7, To: 7}}, 5)...)
	from := append(slices.Clone(a.from), 7, 7, 7)
	weights := append(slices.Clone(a.weights), 7, 7, 7)
	return args{
		g:    api.Graph{N: a.g.N, Edges: edges[:len(a.g.Edges)]},
		node: a.node, from: from[:len(a.from)], weights: weights[:len(a.weights)],
	}
}

// text is all that the arguments' memory has, spare room too.
func (a args) text() string {
	return fmt.Sprint(a.g.N, a.g.Edges[:cap(a.g.Edges)], a.node, a.from[:cap(a.from)], a.weights[:cap(a.weights)])
}

func (a args) scribble() {
	answer{lists: [][]int{a.from, a.weights}, edges: a.g.Edges}.scribble()
}

// someArgs are arguments of graphs that go round, and that do not.
func someArgs() []args {
	all := []args{
		{g: graphOf(4, "0-1 1-2 2-1 2-3"), node: 1, from: []int{2, 1}, weights: []int{1, 2, 3, 4}},
		{g: graphOf(4, "0-2 1-2 2-3 0-3"), from: []int{3, 0}, weights: []int{5, 1, 1, 1}},
		{g: graphOf(5, "0-1 0-2 0-3 0-4 0-0"), from: []int{4, 4}, weights: []int{5, 1, 1, 1, 1}},
		{g: graphOf(7, "6-5 5-4 4-3 3-2 2-1 1-0"), node: 6, from: []int{6}, weights: []int{1, 1, 1, 1, 1, 1, 1}},
		{g: graphOf(8, "0-1 1-2 2-0 3-4 4-5 5-3 6-7 7-6"), node: 3, from: []int{0, 6}, weights: []int{1, 1, 1, 1, 1, 1, 1, 1}},
		{g: graphOf(3, ""), node: 2, from: []int{2, 1, 0}, weights: []int{0, 1, 2}},
	}
	r := rand.New(rand.NewPCG(15, 3))
	for range 300 {
		g := someGraph(r, 9, 16)
		all = append(all, args{g: g, node: r.IntN(g.N), from: someNodes(r, g.N), weights: someWeights(r, g.N)})
	}
	return all
}

func TestArgumentsAreLeft(t *testing.T) {
	for _, of := range someArgs() {
		a := of.roomy()
		was := a.text()
		for name, call := range answers {
			told := call(a)
			wanted := call(of).text()
			want(t, told.text(), wanted, name, "with spare room")
			told.scribble()
			want(t, a.text(), was, name, "and its arguments")
			want(t, call(a).text(), wanted, name, "again, its answer scribbled over")
		}
		graph.Check(a.g)
		want(t, a.text(), was, "Check and its argument")
	}
}

func TestAnswersAreNew(t *testing.T) {
	for _, of := range someArgs() {
		for name, call := range answers {
			a := of.roomy()
			told := call(a)
			was := told.text()
			a.scribble()
			want(t, told.text(), was, name, ": its answer, its arguments scribbled over")
			call(of.roomy()).scribble()
			want(t, told.text(), was, name, ": its answer, another one scribbled over")
		}
	}
}

// No two lists of one answer share memory, spare room too.
func TestListsOfOneAnswer(t *testing.T) {
	for _, of := range someArgs() {
		parts, _ := graph.Components(of.g)
		for i := range parts {
			was := make([]string, len(parts))
			for j := range parts {
				was[j] = numbers(parts[j])
			}
			scribble(parts[i])
			for j := range parts {
				if j != i {
					want(t, numbers(parts[j]), was[j], "part", j, "with part", i, "scribbled over")
				}
			}
		}
	}
}

// R6: the same call tells the same, whatever was called ahead of it.
func TestSameAgain(t *testing.T) {
	all := someArgs()
	first := map[string][]string{}
	for name, call := range answers {
		for _, a := range all {
			first[name] = append(first[name], call(a).text())
		}
	}
	r := rand.New(rand.NewPCG(15, 2))
	for range 2000 {
		i := r.IntN(len(all))
		for name, call := range answers {
			want(t, call(all[i]).text(), first[name][i], name, "again")
		}
	}
}
