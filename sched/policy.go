package sched

import "onceweb/api"

// nobody is less than each number that may be ready.
const nobody = -1

// policy says who is picked, and remembers what it must for that.
type policy interface {
	// pick is one of the ready, which are in order and at least one; the picks have numbers from 0 on.
	pick(number int, ready []int) int
	// clone is a policy of its own that stands where this one does.
	clone() policy
}

// greatest is the one of the greatest weight; of several the least.
func greatest(ready []int, weight func(n int) int) int {
	best := ready[0]
	for _, n := range ready[1:] {
		if weight(n) > weight(best) {
			best = n
		}
	}
	return best
}

// first picks the least.
type first struct{}

func (first) pick(_ int, ready []int) int { return ready[0] }

func (f first) clone() policy { return f }

// last picks the greatest.
type last struct{}

func (last) pick(_ int, ready []int) int { return ready[len(ready)-1] }

func (l last) clone() policy { return l }

// round picks the next one above the one picked last, and the least behind the greatest.
type round struct {
	picked int // the one picked last, or nobody
}

func (r *round) pick(_ int, ready []int) int {
	r.picked = leastAbove(r.picked, ready)
	return r.picked
}

func leastAbove(floor int, ready []int) int {
	for _, n := range ready {
		if n > floor {
			return n
		}
	}
	return ready[0]
}

func (r *round) clone() policy {
	own := *r
	return &own
}

// fair picks the one picked least often.
type fair struct {
	times [api.MaxTasks]int // of each number: how often it was picked
}

func (f *fair) pick(_ int, ready []int) int {
	picked := greatest(ready, func(n int) int { return -f.times[n] })
	f.times[picked]++
	return picked
}

func (f *fair) clone() policy {
	own := *f
	return &own
}
