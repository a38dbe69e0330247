package plan

// ready is the jobs that are ready, as a heap of the library.
type ready struct {
	jobs  []int
	ahead func(a, b int) bool // whether one job is to be taken ahead of another one
}

// Len is part of the heap's interface.
func (r *ready) Len() int { return len(r.jobs) }

// Less is part of the heap's interface.
func (r *ready) Less(i, j int) bool { return r.ahead(r.jobs[i], r.jobs[j]) }

// Swap is part of the heap's interface.
func (r *ready) Swap(i, j int) { r.jobs[i], r.jobs[j] = r.jobs[j], r.jobs[i] }

// Push is part of the heap's interface: for heap.Push alone.
func (r *ready) Push(x any) { r.jobs = append(r.jobs, x.(int)) }

// Pop is part of the heap's interface: for heap.Pop alone.
func (r *ready) Pop() any {
	last := len(r.jobs) - 1
	job := r.jobs[last]
	r.jobs = r.jobs[:last]
	return job
}
