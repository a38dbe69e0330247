package clock

import (
	"container/heap"
	"slices"

	"onceweb/api"
)

// queue is the pending timers, as a heap of the library: whoever fires next stands at the front.
type queue []api.Timer

// Len is part of the heap's interface.
func (q queue) Len() int { return len(q) }

// Less is part of the heap's interface. No two numbers are the same, so it tells any two timers apart.
func (q queue) Less(i, j int) bool {
	if q[i].At != q[j].At {
		return q[i].At < q[j].At
	}
	return q[i].Number < q[j].Number
}

// Swap is part of the heap's interface.
func (q queue) Swap(i, j int) { q[i], q[j] = q[j], q[i] }

// Push is part of the heap's interface: for heap.Push alone.
func (q *queue) Push(x any) { *q = append(*q, x.(api.Timer)) }

// Pop is part of the heap's interface: for heap.Pop and heap.Remove alone.
func (q *queue) Pop() any {
	last := len(*q) - 1
	t := (*q)[last]
	*q = (*q)[:last]
	return t
}

// place is where the timer of that number stands; below 0: it is not pending.
func (q queue) place(number int) int {
	return slices.IndexFunc(q, func(t api.Timer) bool { return t.Number == number })
}

func (q *queue) add(t api.Timer) { heap.Push(q, t) }

func (q *queue) remove(place int) { heap.Remove(q, place) }

func (q *queue) move(place, at int) {
	(*q)[place].At = at
	heap.Fix(q, place)
}

// due is how many firings there are up to a time. It stops counting above MaxItems: more is refused in any case.
func (q queue) due(until int) int {
	sum := 0
	for _, t := range q {
		if sum > api.MaxItems {
			break
		}
		sum += firings(t, until)
	}
	return sum
}

// firings is how many times a timer fires up to a time.
func firings(t api.Timer, until int) int {
	switch {
	case t.At > until:
		return 0
	case t.Every == 0:
		return 1
	}
	return (until-t.At)/t.Every + 1
}

// fire lets the front's timer fire, and takes it off unless it goes on.
func (q *queue) fire() api.Firing {
	t := (*q)[0]
	if t.Every > 0 && t.Every <= api.MaxTick-t.At {
		q.move(0, t.At+t.Every)
	} else {
		q.remove(0)
	}
	return api.Firing{Number: t.Number, At: t.At}
}
