package plan_test

import (
	"math/rand/v2"
	"slices"
	"testing"

	"onceweb/api"
	"onceweb/plan"
)

// judge is a second reading of the chapter: all chains told one by one, and time that goes on tick by tick.
type judge struct {
	l       []api.Job
	chains  [][]int
	longest int
}

// judgeCheck tells what is wrong with jobs.
func judgeCheck(l []api.Job) api.Errno {
	if len(l) > 256 {
		return api.ErrLong
	}
	for place, job := range l {
		if job.Ticks < 0 || job.Ticks > 1<<30 {
			return api.ErrRange
		}
		for i, need := range job.Needs {
			if need == place || need < 0 || need > len(l)-1 || slices.Index(job.Needs, need) < i {
				return api.ErrNeeds
			}
		}
	}
	// Warshall: who needs whom by way of others.
	needs := make([][]bool, len(l))
	for job := range l {
		needs[job] = make([]bool, len(l))
		for _, need := range l[job].Needs {
			needs[job][need] = true
		}
	}
	for by := range l {
		for a := range l {
			for b := range l {
				needs[a][b] = needs[a][b] || needs[a][by] && needs[by][b]
			}
		}
	}
	for job := range l {
		if needs[job][job] {
			return api.ErrNeeds
		}
	}
	return api.OK
}

func judgeOf(l []api.Job) *judge {
	j := &judge{l: l}
	for job := range l {
		j.goOn([]int{job})
	}
	for _, chain := range j.chains {
		j.longest = max(j.longest, j.length(chain))
	}
	return j
}

// goOn keeps a chain, and all that begin with it.
func (j *judge) goOn(chain []int) {
	j.chains = append(j.chains, slices.Clone(chain))
	for next := range j.l {
		if slices.Contains(j.l[next].Needs, chain[len(chain)-1]) {
			j.goOn(append(chain, next))
		}
	}
}

func (j *judge) length(chain []int) int {
	sum := 0
	for _, job := range chain {
		sum += j.l[job].Ticks
	}
	return sum
}

// each is, of each job, the length of the longest of the chains that go with it.
func (j *judge) each(goes func(chain []int, job int) bool) []int {
	l := make([]int, len(j.l))
	for _, chain := range j.chains {
		for job := range j.l {
			if goes(chain, job) {
				l[job] = max(l[job], j.length(chain))
			}
		}
	}
	return l
}

func (j *judge) ranks() []int {
	return j.each(func(chain []int, job int) bool { return chain[0] == job })
}

func (j *judge) slack() []int {
	l := j.each(func(chain []int, job int) bool { return slices.Contains(chain, job) })
	for job := range l {
		l[job] = j.longest - l[job]
	}
	return l
}

func (j *judge) critical() []int {
	var best []int
	for _, chain := range j.chains {
		if j.length(chain) == j.longest && (best == nil || slices.Compare(chain, best) < 0) {
			best = chain
		}
	}
	return best
}

func (j *judge) work() int {
	sum := 0
	for _, job := range j.l {
		sum += job.Ticks
	}
	return sum
}

// least is the least time by which so many workers could have done the work, and which is not below the longest chain.
func (j *judge) least(workers int) int {
	least := j.longest
	for least*workers < j.work() {
		least++
	}
	return least
}

// list lets time go on tick by tick; who is free, and what is ready, is read out of the slots that there are.
func (j *judge) list(workers int) []api.Slot {
	var slots []api.Slot
	ranks := j.ranks()
	for now := 0; len(slots) < len(j.l); now++ {
		for {
			worker := slices.IndexFunc(upTo(workers), func(worker int) bool {
				return !slices.ContainsFunc(slots, func(slot api.Slot) bool { return slot.Worker == worker && slot.To > now })
			})
			var ready []int
			for job := range j.l {
				if placeOf(slots, job) < 0 && j.mayBegin(slots, job, now) {
					ready = append(ready, job)
				}
			}
			if worker < 0 || len(ready) == 0 {
				break
			}
			slices.SortStableFunc(ready, func(a, b int) int { return ranks[b] - ranks[a] })
			slots = append(slots, api.Slot{Job: ready[0], Worker: worker, From: now, To: now + j.l[ready[0]].Ticks})
		}
	}
	return slots
}

func upTo(n int) []int {
	l := make([]int, n)
	for i := range l {
		l[i] = i
	}
	return l
}

func placeOf(slots []api.Slot, job int) int {
	return slices.IndexFunc(slots, func(slot api.Slot) bool { return slot.Job == job })
}

// mayBegin tells whether all that a job needs have ended at a time.
func (j *judge) mayBegin(slots []api.Slot, job, now int) bool {
	return !slices.ContainsFunc(j.l[job].Needs, func(need int) bool {
		place := placeOf(slots, need)
		return place < 0 || slots[place].To > now
	})
}

// halves is the half ticks at which a job is done: all within its slot, and of one of 0 ticks that at which it begins.
func halves(slot api.Slot) []int {
	if slot.From == slot.To {
		return []int{2 * slot.From}
	}
	var l []int
	for half := 2*slot.From + 1; half < 2*slot.To; half++ {
		l = append(l, half)
	}
	return l
}

// meet tells whether two slots of one worker can not both be.
func meet(a, b api.Slot) bool {
	return a.Worker == b.Worker && (a.From != a.To || b.From != b.To) && slices.ContainsFunc(halves(a), func(half int) bool {
		return slices.Contains(halves(b), half)
	})
}

func (j *judge) right(workers int, slots []api.Slot) bool {
	var jobs []int
	for _, slot := range slots {
		jobs = append(jobs, slot.Job)
	}
	slices.Sort(jobs)
	if !slices.Equal(jobs, upTo(len(j.l))) {
		return false
	}
	for place, slot := range slots {
		if !slices.Contains(upTo(workers), slot.Worker) || slot.From < 0 || slot.To != slot.From+j.l[slot.Job].Ticks {
			return false
		}
		if !j.mayBegin(slots, slot.Job, slot.From) {
			return false
		}
		if slices.ContainsFunc(slots[place+1:], func(other api.Slot) bool { return meet(slot, other) }) {
			return false
		}
	}
	return true
}

// best is the first span for which each job can be given a time and a worker.
func (j *judge) best(workers int) int {
	span := 0
	for !j.fits(workers, span, nil) {
		span++
	}
	return span
}

// fits tells whether the jobs that have no slot yet can be given theirs.
func (j *judge) fits(workers, span int, slots []api.Slot) bool {
	if len(slots) == len(j.l) {
		return true
	}
	job, used := 0, 0
	for placeOf(slots, job) >= 0 || !j.mayBegin(slots, job, span) {
		if job++; job == len(j.l) {
			return false
		}
	}
	for _, slot := range slots {
		used = max(used, slot.Worker+1)
	}
	for from := 0; from+j.l[job].Ticks <= span; from++ {
		if !j.mayBegin(slots, job, from) {
			continue
		}
		// Of workers that have nothing to do yet one is as good as another.
		for worker := range min(workers, used+1) {
			slot := api.Slot{Job: job, Worker: worker, From: from, To: from + j.l[job].Ticks}
			if !slices.ContainsFunc(slots, func(other api.Slot) bool { return meet(slot, other) }) && j.fits(workers, span, append(slots, slot)) {
				return true
			}
		}
	}
	return false
}

// wantJudged holds what all calls tell of jobs against the judge.
func wantJudged(t *testing.T, l []api.Job, best bool, workers ...int) {
	t.Helper()
	same := func(what, got, wanted string) {
		if got != wanted {
			t.Helper()
			t.Fatalf("%s of %s (by %v): %s, want %s", what, jobsText(l), workers, got, wanted)
		}
	}
	e := judgeCheck(l)
	same("Check", checkText(plan.Check(l)), checkText(e))
	if e != api.OK {
		for name, of := range ofJobs {
			same(name, of(l), e.Error())
		}
		for name, of := range byWorkers {
			same(name, of(l, 2), e.Error())
		}
		return
	}
	j := judgeOf(l)
	same("Ranks", listText(plan.Ranks(l)), numbers(j.ranks()))
	same("Critical", listText(plan.Critical(l)), numbers(j.critical()))
	same("Slack", listText(plan.Slack(l)), numbers(j.slack()))
	for _, m := range workers {
		same("Bounds", boundsText(plan.Bounds(l, m)), boundsText(j.work(), j.longest, j.least(m), api.OK))
		same("List", slotText(plan.List(l, m)), slotsText(j.list(m)))
		if best {
			same("Best", spanText(plan.Best(l, m)), spanText(j.best(m), api.OK))
		}
	}
}

// eachList tells all lists of n numbers below most.
func eachList(n, most int, tell func(l []int)) {
	l := make([]int, n)
	for {
		tell(l)
		i := 0
		for i < n && l[i] == most-1 {
			l[i] = 0
			i++
		}
		if i == n {
			return
		}
		l[i]++
	}
}

// eachJobs tells all n jobs of fewer ticks than most, with all needs of each other: of themselves and in circles, too.
func eachJobs(n, most int, tell func(l []api.Job)) {
	for bits := range 1 << (n * n) {
		l := everyone(n, func(job, need int) bool { return bits>>(job*n+need)&1 == 1 })
		eachList(n, most, func(ticks []int) {
			for job := range l {
				l[job].Ticks = ticks[job]
			}
			tell(l)
		})
	}
}

// eachRow tells all n jobs of fewer ticks than most that need some of those ahead of them.
func eachRow(n, most int, tell func(l []api.Job)) {
	for bits := range 1 << (n * (n - 1) / 2) {
		l := everyone(n, func(job, need int) bool { return need < job && bits>>(job*(job-1)/2+need)&1 == 1 })
		eachList(n, most, func(ticks []int) {
			for job := range l {
				l[job].Ticks = ticks[job]
			}
			tell(l)
		})
	}
}

// named is jobs in another order, and what each needs in any order.
func named(r *rand.Rand, l []api.Job, places []int) []api.Job {
	other := make([]api.Job, len(l))
	for job, place := range places {
		other[place].Ticks = l[job].Ticks
		for _, need := range l[job].Needs {
			other[place].Needs = append(other[place].Needs, places[need])
		}
		needs := other[place].Needs
		r.Shuffle(len(needs), func(a, b int) { needs[a], needs[b] = needs[b], needs[a] })
	}
	return other
}

// someJobs is up to n jobs of up to so many ticks, that need some of each other in no circle: few or many.
func someJobs(r *rand.Rand, n, ticks int) []api.Job {
	l := make([]api.Job, r.IntN(n+1))
	rare := 1 + r.IntN(4)
	for job := range l {
		l[job].Ticks = r.IntN(ticks + 1)
		for need := range job {
			if r.IntN(1+rare) == 0 {
				l[job].Needs = append(l[job].Needs, need)
			}
		}
	}
	return named(r, l, r.Perm(len(l)))
}

// TestAllSmallJobs: all of up to 3 jobs of up to 2 ticks, and all of 4 of up to 2 ticks that need those ahead, named anew.
func TestAllSmallJobs(t *testing.T) {
	for n := range 4 {
		eachJobs(n, 3, func(l []api.Job) { wantJudged(t, l, true, 1, 2, 3, 4) })
	}
	r := rand.New(rand.NewPCG(16, 1))
	eachRow(4, 3, func(l []api.Job) {
		for range 3 {
			wantJudged(t, named(r, l, r.Perm(4)), true, 1, 2, 3)
		}
	})
	eachRow(5, 2, func(l []api.Job) { wantJudged(t, named(r, l, r.Perm(5)), false, 1, 2, 3) })
}

func TestJobsByChance(t *testing.T) {
	r := rand.New(rand.NewPCG(16, 2))
	for range 4000 {
		wantJudged(t, someJobs(r, 9, 3), false, 1+r.IntN(4), 1+r.IntN(plan.MaxWorkers))
		wantJudged(t, someJobs(r, 9, 20), false, 1+r.IntN(4), 1+r.IntN(plan.MaxWorkers))
	}
	for range 300 {
		wantJudged(t, someJobs(r, plan.MaxBest, 4), true, 1+r.IntN(3), 2)
	}
}

// Some things are wrong, by chance: the first of them is told.
func TestWrongByChance(t *testing.T) {
	r := rand.New(rand.NewPCG(16, 3))
	found := map[api.Errno]int{}
	for range 30000 {
		l := someJobs(r, 6, 3)
		for range r.IntN(3) {
			if len(l) == 0 {
				break
			}
			job := &l[r.IntN(len(l))]
			switch r.IntN(4) {
			case 0:
				job.Ticks = []int{-1, plan.MaxTicks, plan.MaxTicks + 1}[r.IntN(3)]
			default:
				job.Needs = append(job.Needs, r.IntN(len(l)+2)-1)
			}
		}
		e := judgeCheck(l)
		found[e]++
		want(t, checkText(plan.Check(l)), checkText(e), "Check of", jobsText(l))
	}
	if found[api.OK] < 3000 || found[api.ErrRange] < 3000 || found[api.ErrNeeds] < 3000 {
		t.Errorf("found %v", found)
	}
}

// eachSlot tells all slots with small numbers.
func eachSlot(tell func(slot api.Slot)) {
	eachList(4, 5, func(l []int) {
		if l[0] < 4 && l[1] < 4 {
			tell(api.Slot{Job: l[0] - 1, Worker: l[1] - 1, From: l[2] - 1, To: l[3] - 1})
		}
	})
}

// 16.4: all schedules of two slots with small numbers.
func TestAllSmallSchedules(t *testing.T) {
	right := 0
	for _, jobs := range []string{"1", "1 1", "0 2", "2 0", "0 0", "1 1:0", "1:1 0", "0 0:0", "2 0:0", "1 1 1"} {
		l := jobsOf(jobs)
		j := judgeOf(l)
		for workers := 1; workers <= 2; workers++ {
			check := func(s ...api.Slot) {
				is := j.right(workers, s)
				if is {
					right++
				}
				if got, e := plan.Right(l, workers, s); got != is || e != api.OK {
					t.Fatalf("Right of %s by %d: %s: %v, %v, want %v", jobs, workers, slotsText(s), got, e, is)
				}
			}
			eachSlot(func(one api.Slot) {
				check(one)
				eachSlot(func(other api.Slot) { check(one, other) })
			})
		}
	}
	if right < 300 {
		t.Errorf("%d are right", right)
	}
}

// spoil changes something of a schedule, by chance.
func spoil(r *rand.Rand, s []api.Slot) []api.Slot {
	if len(s) == 0 {
		return append(s, api.Slot{})
	}
	at, by := r.IntN(len(s)), r.IntN(len(s))
	far := 1 + r.IntN(2) - 3*r.IntN(2)
	switch r.IntN(9) {
	case 0:
		s[at].Job += far
	case 1:
		s[at].Worker += far
	case 2:
		s[at].From += far
	case 3:
		s[at].To += far
	case 4, 5:
		s[at].From += far
		s[at].To += far
	case 6:
		s[at], s[by] = s[by], s[at]
	case 7:
		s[at].Worker, s[by].Worker = s[by].Worker, s[at].Worker
	default:
		if r.IntN(2) == 0 {
			return slices.Delete(s, at, at+1)
		}
		return append(s, s[by])
	}
	return s
}

// 16.4: schedules that are right, with a few things changed by chance.
func TestSchedulesByChance(t *testing.T) {
	r := rand.New(rand.NewPCG(16, 4))
	found := map[bool]int{}
	for range 30000 {
		l, workers := someJobs(r, 7, 4), 1+r.IntN(4)
		s := someSchedule(r, l, workers)
		for range r.IntN(4) {
			s = spoil(r, s)
		}
		is := judgeOf(l).right(workers, s)
		found[is]++
		if got, e := plan.Right(l, workers, s); got != is || e != api.OK {
			t.Fatalf("Right of %s by %d: %s: %v, %v, want %v", jobsText(l), workers, slotsText(s), got, e, is)
		}
	}
	if found[true] < 5000 || found[false] < 5000 {
		t.Errorf("found %v", found)
	}
}
