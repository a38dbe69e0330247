package plan

import (
	"slices"

	"onceweb/api"
)

// none stands where a place or a time would, if there were one.
const none = -1

// ties is which jobs wait for which.
type ties struct {
	after [][]int // of each job: those that need it, rising
	left  []int   // of each job: how many of what it needs have not ended
}

func tiesOf(l []api.Job) ties {
	t := ties{after: make([][]int, len(l)), left: make([]int, len(l))}
	for place, job := range l {
		t.left[place] = len(job.Needs)
		for _, need := range job.Needs {
			t.after[need] = append(t.after[need], place)
		}
	}
	return t
}

// begin tells the jobs that need nothing.
func (t ties) begin(tell func(job int)) {
	for job, left := range t.left {
		if left == 0 {
			tell(job)
		}
	}
}

// end lets a job have ended, and tells those that wait for nothing any more.
func (t ties) end(job int, tell func(next int)) {
	for _, next := range t.after[job] {
		if t.left[next]--; t.left[next] == 0 {
			tell(next)
		}
	}
}

// order is all jobs, each behind what it needs; but those that need each other in a circle, and those that need such ones, are not in it. (It is found here, since jobs may need each other in more ways than a graph of layer 15 may have edges.)
func order(l []api.Job) []int {
	var order []int
	add := func(job int) { order = append(order, job) }
	t := tiesOf(l)
	t.begin(add)
	for at := 0; at < len(order); at++ {
		t.end(order[at], add)
	}
	return order
}

// ranks is the length of the longest chain from each job on.
func ranks(l []api.Job) []int {
	ranks := make([]int, len(l))
	for _, job := range slices.Backward(order(l)) {
		ranks[job] += l[job].Ticks
		for _, need := range l[job].Needs {
			ranks[need] = max(ranks[need], ranks[job])
		}
	}
	return ranks
}

// ways is the length of the longest chain up to each job, without the job itself.
func ways(l []api.Job) []int {
	ways := make([]int, len(l))
	for _, job := range order(l) {
		for _, need := range l[job].Needs {
			ways[job] = max(ways[job], ways[need]+l[need].Ticks)
		}
	}
	return ways
}

// most is the greatest of the lengths of chains; 0, if there is none.
func most(lengths []int) int {
	most := 0
	for _, length := range lengths {
		most = max(most, length)
	}
	return most
}
