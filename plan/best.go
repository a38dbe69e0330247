package plan

import (
	"slices"

	"onceweb/api"
)

// best is the least span of all right schedules of right jobs. It goes through all orders in which each job stands behind what it needs, and gives job by job to the worker that is free first. That comes to the least span: in the order in which the jobs of a best schedule begin there (of one time those of 0 ticks ahead) none begins later than there.
func best(l []api.Job, workers int) int {
	return bestFrom(l, slices.Repeat([]int{none}, len(l)), make([]int, workers))
}

// bestFrom is the least span where some jobs were given away already: ends is when they end (none of the others), free when each worker is free.
func bestFrom(l []api.Job, ends, free []int) int {
	least := none
	for job := range l {
		from, may := due(l[job], ends)
		if ends[job] != none || !may {
			continue
		}
		was := slices.Min(free)
		worker := slices.Index(free, was)
		ends[job] = max(was, from) + l[job].Ticks
		free[worker] = ends[job]
		if span := bestFrom(l, ends, free); least == none || span < least {
			least = span
		}
		ends[job], free[worker] = none, was
	}
	if least == none { // all are given away
		return slices.Max(free)
	}
	return least
}

// due is when all that a job needs have ended, if they were all given away.
func due(job api.Job, ends []int) (int, bool) {
	from := 0
	for _, need := range job.Needs {
		if ends[need] == none {
			return 0, false
		}
		from = max(from, ends[need])
	}
	return from, true
}
