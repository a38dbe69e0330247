package closer

import (
	"container/heap"

	"onceweb/api"
)

// candidate is a part that may be closed next.
type candidate struct {
	ended, place int
}

// next is the candidates, as a heap of the library: the one that ended last stands at the front, and of those that ended at once the one of the later place.
type next []candidate

// Len is part of the heap's interface.
func (n next) Len() int { return len(n) }

// Less is part of the heap's interface.
func (n next) Less(i, j int) bool {
	if n[i].ended != n[j].ended {
		return n[i].ended > n[j].ended
	}
	return n[i].place > n[j].place
}

// Swap is part of the heap's interface.
func (n next) Swap(i, j int) { n[i], n[j] = n[j], n[i] }

// Push is part of the heap's interface: for heap.Push alone.
func (n *next) Push(x any) { *n = append(*n, x.(candidate)) }

// Pop is part of the heap's interface: for heap.Pop alone.
func (n *next) Pop() any {
	last := len(*n) - 1
	c := (*n)[last]
	*n = (*n)[:last]
	return c
}

// line is the places of some parts of one scope, in the order in which they are closed.
func (u uses) line(l []api.Part, places []int) []int {
	held := make([]int, len(l)) // of each: by how many that are not closed yet
	var may next
	free := func(place int) { heap.Push(&may, candidate{l[place].Ended, place}) }
	for _, place := range places {
		for _, other := range places {
			if u.ahead(other, place) {
				held[place]++
			}
		}
		if held[place] == 0 {
			free(place)
		}
	}
	var order []int
	for may.Len() > 0 {
		place := heap.Pop(&may).(candidate).place
		order = append(order, place)
		for _, other := range places {
			if !u.ahead(place, other) {
				continue
			}
			if held[other]--; held[other] == 0 {
				free(other)
			}
		}
	}
	return order
}
