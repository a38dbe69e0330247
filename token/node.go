package token

import (
	"cmp"
	"slices"

	"onceweb/api"
	"onceweb/fail"
)

// never is the deadline of a token that was given none: later than all others, so that the least one is told by min.
const never = api.MaxTick + 1

// alive is the rank of a token that is not cancelled: behind all others, likewise.
const alive = MaxTokens

// node is a token of a tree. By places, not by pointers, do nodes know each other, so that a copy of all of them is a tree of its own.
type node struct {
	name  string
	above set      // the places of all that it hangs on
	until int      // its deadline
	rank  int      // its place in the order of those that are cancelled
	by    int      // once it is cancelled: the place of the one that was cancelled by itself and took it along, or its own
	why   api.Fail // once it is cancelled by itself: its failure
}

// newNode is a token that is not cancelled, and hangs on those at the places of its parents.
func (t *Tree) newNode(name string, parents []int) node {
	n := node{name: name, until: never, rank: alive}
	for _, place := range parents {
		n.above.add(place)
		n.above.addAll(t.nodes[place].above)
	}
	return n
}

func (t *Tree) isDone(place int) bool { return t.nodes[place].rank != alive }

// leastRank is the rank of that of them that was cancelled first; alive, if none is.
func (t *Tree) leastRank(places []int) int {
	least := alive
	for _, place := range places {
		least = min(least, t.nodes[place].rank)
	}
	return least
}

// eachAbove hands over the places of all that the token at a place hangs on.
func (t *Tree) eachAbove(place int, visit func(at int)) {
	for at := range place {
		if t.nodes[place].above.has(at) {
			visit(at)
		}
	}
}

// eachBeneath hands over the places of all that hang on the token at a place, in the order in which they were made.
func (t *Tree) eachBeneath(place int, visit func(at int)) {
	for at := place + 1; at < len(t.nodes); at++ {
		if t.nodes[at].above.has(place) {
			visit(at)
		}
	}
}

// cancel cancels a token by itself, with that failure, and all that hang on it right behind it; but nothing, if it is cancelled already.
func (t *Tree) cancel(place int, why api.Fail) {
	if t.isDone(place) {
		return
	}
	t.nodes[place].why = why
	t.end(place, place)
	t.eachBeneath(place, func(at int) {
		if !t.isDone(at) {
			t.end(at, place)
		}
	})
}

// end puts a token behind all that are cancelled so far, with the failure of the one at by.
func (t *Tree) end(place, by int) {
	t.nodes[place].rank = len(t.order)
	t.nodes[place].by = by
	t.order = append(t.order, place)
}

// expire cancels all whose deadline has come; it tells what is cancelled.
func (t *Tree) expire() []string {
	before := len(t.order)
	for _, place := range t.due() {
		why, _ := fail.Token(t.nodes[place].name, api.Fail{{Kind: api.FRaise, Text: "deadline"}})
		t.cancel(place, why)
	}
	return t.namesOf(t.order[before:])
}

// due is the places of those that are not cancelled and whose deadline has come, by their deadlines. The sort is stable: of one deadline they stay in the order in which they were made.
func (t *Tree) due() []int {
	var places []int
	for place, n := range t.nodes {
		if n.until <= t.clock.Now() && !t.isDone(place) {
			places = append(places, place)
		}
	}
	slices.SortStableFunc(places, func(a, b int) int { return cmp.Compare(t.nodes[a].until, t.nodes[b].until) })
	return places
}
