package graph

import "slices"

// far is, of each node, how many edges a shortest way to it from a given one has: 0 of that one itself; none, where there is no way.
func (l lanes) far(from int) []int {
	far := slices.Repeat([]int{none}, len(l))
	far[from] = 0
	for queue := []int{from}; len(queue) > 0; queue = queue[1:] {
		for _, to := range l[queue[0]] {
			if far[to] == none {
				far[to] = far[queue[0]] + 1
				queue = append(queue, to)
			}
		}
	}
	return far
}

// nearest is the first of the nodes that is no farther than any of them; none, if there is a way from none of them.
func nearest(nodes, far []int) int {
	best := none
	for _, node := range nodes {
		if far[node] != none && (best == none || far[node] < far[best]) {
			best = node
		}
	}
	return best
}

// heaviest is, of each node, the greatest sum of weights along a way from it on, and the node that such a way goes on to: none, where nothing is won by going on, since a beginning comes ahead of what is longer.
func (l lanes) heaviest(order, weights []int) (sums, next []int) {
	sums, next = slices.Clone(weights), slices.Repeat([]int{none}, len(l))
	for _, node := range slices.Backward(order) {
		most := 0
		for _, to := range l[node] {
			if sums[to] > most {
				most, next[node] = sums[to], to
			}
		}
		sums[node] += most
	}
	return sums, next
}
