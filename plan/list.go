package plan

import (
	"container/heap"
	"slices"

	"onceweb/api"
)

// shift is a list schedule while it is made.
type shift struct {
	jobs  []api.Job
	ties  ties
	ready *ready
	at    []int // of each worker: the place of the slot that it is at; none, if it is free
	slots []api.Slot
	now   int
}

func shiftOf(l []api.Job, workers int) *shift {
	ranks := ranks(l)
	s := &shift{jobs: l, ties: tiesOf(l), at: slices.Repeat([]int{none}, workers)}
	s.ready = &ready{ahead: func(a, b int) bool {
		return ranks[a] > ranks[b] || ranks[a] == ranks[b] && a < b
	}}
	s.ties.begin(s.wait)
	return s
}

// list is the list schedule of right jobs.
func list(l []api.Job, workers int) []api.Slot {
	s := shiftOf(l, workers)
	// Where jobs are left that nobody could take, someone is at work: the jobs need each other in no circle.
	for s.take(); len(s.slots) < len(l); s.take() {
		s.pass()
	}
	return s.slots
}

// wait lets a job that is ready wait to be taken.
func (s *shift) wait(job int) { heap.Push(s.ready, job) }

// take lets free workers begin ready jobs, as long as there are both.
func (s *shift) take() {
	for s.ready.Len() > 0 {
		worker := slices.Index(s.at, none)
		if worker == none {
			return
		}
		job := heap.Pop(s.ready).(int)
		s.at[worker] = len(s.slots)
		s.slots = append(s.slots, api.Slot{Job: job, Worker: worker, From: s.now, To: s.now + s.jobs[job].Ticks})
		// A job of 0 ticks ends ahead of whatever is taken next.
		s.end()
	}
}

// pass lets time go on to when the next job ends.
func (s *shift) pass() {
	next := none
	for _, place := range s.at {
		if place != none && (next == none || s.slots[place].To < next) {
			next = s.slots[place].To
		}
	}
	s.now = next
	s.end()
}

// end ends all jobs whose time it is.
func (s *shift) end() {
	for worker, place := range s.at {
		if place != none && s.slots[place].To == s.now {
			s.at[worker] = none
			s.ties.end(s.slots[place].Job, s.wait)
		}
	}
}
