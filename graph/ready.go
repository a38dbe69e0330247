package graph

import (
	"container/heap"

	"onceweb/api"
)

// ready is the nodes that may stand next, as a heap of the library: the least one stands at the front.
type ready []int

// Len is part of the heap's interface.
func (r ready) Len() int { return len(r) }

// Less is part of the heap's interface.
func (r ready) Less(i, j int) bool { return r[i] < r[j] }

// Swap is part of the heap's interface.
func (r ready) Swap(i, j int) { r[i], r[j] = r[j], r[i] }

// Push is part of the heap's interface: for heap.Push alone.
func (r *ready) Push(x any) { *r = append(*r, x.(int)) }

// Pop is part of the heap's interface: for heap.Pop alone.
func (r *ready) Pop() any {
	last := len(*r) - 1
	node := (*r)[last]
	*r = (*r)[:last]
	return node
}

// order is all nodes, so that each edge leads to one that stands behind: at each place the least that may stand there.
func (l lanes) order() ([]int, api.Errno) {
	left := make([]int, len(l)) // of each node: how many that lead to it do not stand yet
	for node := range len(l) {
		for _, to := range l[node] {
			left[to]++
		}
	}
	var next ready
	for node := range len(l) {
		if left[node] == 0 {
			heap.Push(&next, node)
		}
	}
	var order []int
	for next.Len() > 0 {
		node := heap.Pop(&next).(int)
		order = append(order, node)
		for _, to := range l[node] {
			if left[to]--; left[to] == 0 {
				heap.Push(&next, to)
			}
		}
	}
	// Whoever goes round, and all that such nodes have a way to, never may stand.
	if len(order) < len(l) {
		return nil, api.ErrRound
	}
	return order, api.OK
}
