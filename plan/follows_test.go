package plan_test

import (
	"math/rand/v2"
	"slices"
	"testing"

	"onceweb/api"
	"onceweb/plan"
)

// someSchedule is a schedule that is right, by chance: each job, when all that it needs have ended, goes to some worker, some ticks later than it may.
func someSchedule(r *rand.Rand, l []api.Job, workers int) []api.Slot {
	s, free, idle := []api.Slot(nil), make([]int, workers), r.IntN(3)
	ends := slices.Repeat([]int{-1}, len(l))
	for len(s) < len(l) {
		job := r.IntN(len(l))
		if ends[job] >= 0 || slices.ContainsFunc(l[job].Needs, func(need int) bool { return ends[need] < 0 }) {
			continue
		}
		worker := r.IntN(workers)
		from := free[worker] + r.IntN(idle+1)
		for _, need := range l[job].Needs {
			from = max(from, ends[need])
		}
		ends[job] = from + l[job].Ticks
		free[worker] = ends[job]
		s = append(s, api.Slot{Job: job, Worker: worker, From: from, To: ends[job]})
	}
	r.Shuffle(len(s), func(a, b int) { s[a], s[b] = s[b], s[a] })
	return s
}

// eachSome tells all of up to 3 jobs of up to 2 ticks that need those ahead, and many by chance, few and many of them, by some workers.
func eachSome(seed uint64, tell func(r *rand.Rand, l []api.Job, workers int)) {
	r := rand.New(rand.NewPCG(16, seed))
	for n := range 4 {
		eachRow(n, 3, func(l []api.Job) {
			for workers := 1; workers <= 4; workers++ {
				tell(r, l, workers)
			}
		})
	}
	for range 500 {
		tell(r, someJobs(r, plan.MaxBest, 9), 1+r.IntN(4))
		tell(r, someJobs(r, 20, 3), 1+r.IntN(plan.MaxWorkers))
		tell(r, someJobs(r, 20, plan.MaxTicks), 1+r.IntN(plan.MaxWorkers))
	}
	for range 20 {
		tell(r, someJobs(r, plan.MaxJobs, 9), 1+r.IntN(plan.MaxWorkers))
		tell(r, someJobs(r, plan.MaxJobs, plan.MaxTicks), 1+r.IntN(plan.MaxWorkers))
	}
}

// listed is the list schedule and its span.
func listed(t *testing.T, l []api.Job, workers int) ([]api.Slot, int) {
	t.Helper()
	s, e := plan.List(l, workers)
	if e != api.OK || len(s) != len(l) {
		t.Fatalf("List of %s by %d: %s, %v", jobsText(l), workers, slotsText(s), e)
	}
	span, e := plan.Span(s)
	if e != api.OK {
		t.Fatalf("Span of %s: %v", slotsText(s), e)
	}
	return s, span
}

// 16.6: a list schedule is right; and its slots stand in the order in which the jobs begin.
func TestListIsRight(t *testing.T) {
	eachSome(6, func(_ *rand.Rand, l []api.Job, workers int) {
		s, _ := listed(t, l, workers)
		if is, e := plan.Right(l, workers, s); !is || e != api.OK {
			t.Fatalf("%s by %d: %s: %v, %v", jobsText(l), workers, slotsText(s), is, e)
		}
		if !slices.IsSortedFunc(s, func(a, b api.Slot) int { return a.From - b.From }) {
			t.Fatalf("%s by %d: %s", jobsText(l), workers, slotsText(s))
		}
	})
}

// 16.3: no worker is free while a job is ready, and none of a greater rank, or of the same one and a lesser place, is ready when one is taken.
func TestListLeavesNoneFree(t *testing.T) {
	eachSome(7, func(_ *rand.Rand, l []api.Job, workers int) {
		s, _ := listed(t, l, workers)
		ranks, _ := plan.Ranks(l)
		ends := make([]int, len(l))
		for _, slot := range s {
			ends[slot.Job] = slot.To
		}
		for place, slot := range s {
			ready := 0
			for _, need := range l[slot.Job].Needs {
				ready = max(ready, ends[need])
			}
			busy := 0
			for _, other := range s {
				busy += max(0, min(slot.From, other.To)-max(ready, other.From))
			}
			if busy != workers*(slot.From-ready) {
				t.Fatalf("%s by %d: %s: a worker is free while %d is ready", jobsText(l), workers, slotsText(s), slot.Job)
			}
			for _, ahead := range s[:place] {
				if ready < ahead.From && (ranks[ahead.Job] < ranks[slot.Job] || ranks[ahead.Job] == ranks[slot.Job] && ahead.Job > slot.Job) {
					t.Fatalf("%s by %d: %s: %d is taken while %d is ready", jobsText(l), workers, slotsText(s), ahead.Job, slot.Job)
				}
			}
		}
	})
}

// 16.7 (Graham): the span is at most 2 - 1 by the workers times the best one.
func TestGraham(t *testing.T) {
	longer := 0
	eachSome(8, func(_ *rand.Rand, l []api.Job, workers int) {
		best, e := plan.Best(l, workers)
		if len(l) > plan.MaxBest {
			if e != api.ErrLong || best != 0 {
				t.Fatalf("Best of %d jobs: %d, %v", len(l), best, e)
			}
			return
		}
		_, span := listed(t, l, workers)
		if e != api.OK || span < best || span*workers > (2*workers-1)*best {
			t.Fatalf("%s by %d: %d, the best one %d, %v", jobsText(l), workers, span, best, e)
		}
		if span > best {
			longer++
		}
	})
	if longer == 0 {
		t.Errorf("no list schedule was longer than the best one")
	}
}

// 16.8 (Brent): the span, times the workers, is at most the work, and the workers less 1 times the longest chain.
func TestBrent(t *testing.T) {
	eachSome(9, func(_ *rand.Rand, l []api.Job, workers int) {
		_, span := listed(t, l, workers)
		work, longest, _, e := plan.Bounds(l, workers)
		if e != api.OK || span*workers > work+(workers-1)*longest {
			t.Fatalf("%s by %d: %d, work %d, longest %d, %v", jobsText(l), workers, span, work, longest, e)
		}
	})
}

// 16.9: no right schedule's span is below the least of Bounds, nor below the best one.
func TestNoneBelowBounds(t *testing.T) {
	eachSome(10, func(r *rand.Rand, l []api.Job, workers int) {
		work, longest, least, _ := plan.Bounds(l, workers)
		if least < longest || least*workers < work || least > longest && (least-1)*workers >= work {
			t.Fatalf("%s by %d: %d, %d, %d", jobsText(l), workers, work, longest, least)
		}
		best := least
		if len(l) <= plan.MaxBest {
			best, _ = plan.Best(l, workers)
		}
		_, span := listed(t, l, workers)
		if best < least || span < best {
			t.Fatalf("%s by %d: %d, %d, %d", jobsText(l), workers, least, best, span)
		}
		for range 5 {
			s := someSchedule(r, l, workers)
			is, _ := plan.Right(l, workers, s)
			if span, e := plan.Span(s); !is || e != api.OK || span < best {
				t.Fatalf("%s by %d: %s: %v, %d, %v, best %d", jobsText(l), workers, slotsText(s), is, span, e, best)
			}
		}
	})
}

// 16.9: by one worker the span is the sum; by as many as jobs, or more, the longest chain.
func TestOneAndAsManyAsJobs(t *testing.T) {
	eachSome(11, func(r *rand.Rand, l []api.Job, _ int) {
		work, longest, least, _ := plan.Bounds(l, 1)
		if _, span := listed(t, l, 1); span != work || least != work {
			t.Fatalf("%s by 1: %d, %d, want %d", jobsText(l), span, least, work)
		}
		for workers := max(1, len(l)); workers <= plan.MaxWorkers; workers++ {
			_, span := listed(t, l, workers)
			_, _, least, _ := plan.Bounds(l, workers)
			if span != longest || least != longest {
				t.Fatalf("%s by %d: %d, %d, want %d", jobsText(l), workers, span, least, longest)
			}
		}
	})
}

// 16.2: a longest chain is a chain, as long as Bounds says, and its jobs may not be late.
func TestCriticalIsLongest(t *testing.T) {
	eachSome(12, func(_ *rand.Rand, l []api.Job, _ int) {
		chain, _ := plan.Critical(l)
		slack, _ := plan.Slack(l)
		_, longest, _, _ := plan.Bounds(l, 1)
		sum := 0
		for i, job := range chain {
			sum += l[job].Ticks
			if slack[job] != 0 || i > 0 && !slices.Contains(l[job].Needs, chain[i-1]) {
				t.Fatalf("%s: %v, slack %v", jobsText(l), chain, slack)
			}
		}
		if sum != longest || (len(chain) == 0) != (len(l) == 0) {
			t.Fatalf("%s: %v, longest %d", jobsText(l), chain, longest)
		}
	})
}

// 16.2: by its slack a job may take longer without the longest chain growing; by one tick more that grows by one.
func TestSlackIsRoom(t *testing.T) {
	eachSome(13, func(_ *rand.Rand, l []api.Job, _ int) {
		slack, _ := plan.Slack(l)
		_, longest, _, _ := plan.Bounds(l, 1)
		for job := range l {
			later := slices.Clone(l)
			later[job].Ticks += slack[job]
			if later[job].Ticks >= plan.MaxTicks {
				continue
			}
			_, same, _, e := plan.Bounds(later, 1)
			later[job].Ticks++
			_, more, _, f := plan.Bounds(later, 1)
			if slack[job] < 0 || e != api.OK || f != api.OK || same != longest || more != longest+1 {
				t.Fatalf("%s: slack %v: %d: %d, then %d and %d", jobsText(l), slack, job, longest, same, more)
			}
		}
	})
}

// Named anew, and with their needs in another order, jobs have the same ranks, slack, bounds and best span.
func TestJobsInAnyOrder(t *testing.T) {
	eachSome(14, func(r *rand.Rand, l []api.Job, workers int) {
		places := r.Perm(len(l))
		other := named(r, l, places)
		for name, of := range map[string]func(l []api.Job) ([]int, api.Errno){"Ranks": plan.Ranks, "Slack": plan.Slack} {
			one, _ := of(l)
			two, _ := of(other)
			for job, place := range places {
				if one[job] != two[place] {
					t.Fatalf("%s of %s: %v; of %s: %v", name, jobsText(l), one, jobsText(other), two)
				}
			}
		}
		for _, name := range []string{"Bounds", "Best"} {
			want(t, byWorkers[name](other, workers), byWorkers[name](l, workers), name, "of", jobsText(l), "named anew")
		}
		// The places alone tell those of one rank apart.
		same := named(r, l, upTo(len(l)))
		for name, of := range ofJobs {
			want(t, of(same), of(l), name, "of", jobsText(l), "with its needs in another order")
		}
		for name, of := range byWorkers {
			want(t, of(same, workers), of(l, workers), name, "of", jobsText(l), "with its needs in another order")
		}
	})
}

// By one more worker the bounds and the best span are not greater; with a need less neither.
func TestMoreWorkers(t *testing.T) {
	eachSome(15, func(r *rand.Rand, l []api.Job, workers int) {
		if workers == plan.MaxWorkers || len(l) > plan.MaxBest {
			return
		}
		_, _, least, _ := plan.Bounds(l, workers)
		_, _, less, _ := plan.Bounds(l, workers+1)
		best, _ := plan.Best(l, workers)
		better, _ := plan.Best(l, workers+1)
		if less > least || better > best {
			t.Fatalf("%s by %d: %d, %d; by one more: %d, %d", jobsText(l), workers, least, best, less, better)
		}
		for job := range l {
			if len(l[job].Needs) == 0 {
				continue
			}
			free := slices.Clone(l)
			free[job].Needs = free[job].Needs[1:]
			if freer, e := plan.Best(free, workers); e != api.OK || freer > best {
				t.Fatalf("%s by %d: %d; %s: %d, %v", jobsText(l), workers, best, jobsText(free), freer, e)
			}
		}
	})
}
