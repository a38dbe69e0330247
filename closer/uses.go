package closer

import (
	"slices"

	"onceweb/api"
	"onceweb/graph"
)

// beneath is a scope and all beneath it, falling.
func beneath(parents []int, scope int) []int {
	down := api.Graph{N: len(parents)}
	for child, parent := range parents {
		if parent != nowhere {
			down.Edges = append(down.Edges, api.Edge{From: parent, To: child})
		}
	}
	// Of parents that are right comes a graph that is: there is no error to tell.
	all, _ := graph.Reach(down, []int{scope})
	slices.Reverse(all)
	return all
}

// uses tells of any two parts, by their places, whether the first one uses the second, at once or by way of others.
type uses [][]bool

// usesOf (Warshall) asks no graph of layer 15, which has no room for all the edges that MaxCells parts may have.
func usesOf(l []api.Part) uses {
	u := make(uses, len(l))
	for place, p := range l {
		u[place] = make([]bool, len(l))
		for _, use := range p.Uses {
			u[place][use] = true
		}
	}
	for by := range l {
		for from := range l {
			if u[from][by] {
				u.join(from, by)
			}
		}
	}
	return u
}

// join lets one part use whatever another one uses.
func (u uses) join(from, by int) {
	for to, used := range u[by] {
		if used {
			u[from][to] = true
		}
	}
}

// ahead tells whether a part must be closed ahead of another one of its scope; parts that go round together hold up none of each other.
func (u uses) ahead(place, other int) bool { return u[place][other] && !u[other][place] }

// readyOf is the places of a scope's ready parts.
func readyOf(l []api.Part, scope int) []int {
	var ready []int
	for place, p := range l {
		if p.Ready && p.Scope == scope {
			ready = append(ready, place)
		}
	}
	return ready
}
