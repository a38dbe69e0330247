package plan

import "onceweb/api"

// oneEach tells whether there is just one slot for each job, each by one of the workers, and as long as its job.
func oneEach(l []api.Job, workers int, s []api.Slot) bool {
	if len(s) != len(l) {
		return false
	}
	seen := make([]bool, len(l))
	for _, slot := range s {
		if slot.Job < 0 || slot.Job >= len(l) || seen[slot.Job] {
			return false
		}
		seen[slot.Job] = true
		if slot.Worker < 0 || slot.Worker >= workers {
			return false
		}
		// Of two times that are not below 0 the difference is an int; the sum of a time and Ticks need not be.
		if slot.From < 0 || slot.To < slot.From || slot.To-slot.From != l[slot.Job].Ticks {
			return false
		}
	}
	return true
}

// behindNeeds tells whether each job begins when all that it needs have ended, or later.
func behindNeeds(l []api.Job, s []api.Slot) bool {
	ends := make([]int, len(l))
	for _, slot := range s {
		ends[slot.Job] = slot.To
	}
	for _, slot := range s {
		for _, need := range l[slot.Job].Needs {
			if slot.From < ends[need] {
				return false
			}
		}
	}
	return true
}

// oneAtATime tells whether no worker does two jobs at once.
func oneAtATime(s []api.Slot) bool {
	for i, a := range s {
		for _, b := range s[:i] {
			if a.Worker == b.Worker && a.To > b.From && b.To > a.From {
				return false
			}
		}
	}
	return true
}
