package plan_test

import (
	"fmt"
	"math/rand/v2"
	"slices"
	"sync"
	"testing"

	"onceweb/api"
	"onceweb/plan"
)

// R3: what is handed in is not changed, spare room too; what is answered is new memory, spare room too.

// answer is what a call told: numbers or slots, and the rest as text.
type answer struct {
	list  []int
	slots []api.Slot
	rest  string
}

func (a answer) text() string { return numbers(a.list) + "; " + slotsText(a.slots) + "; " + a.rest }

// scribble writes over all of an answer, its spare room too.
func (a answer) scribble() {
	scribble(a.list)
	scribbleSlots(a.slots)
}

func scribble(l []int) {
	l = l[:cap(l)]
	for i := range l {
		l[i] = -9
	}
}

func scribbleSlots(l []api.Slot) {
	l = l[:cap(l)]
	for i := range l {
		l[i] = api.Slot{Job: -9, Worker: -9, From: -9, To: -9}
	}
}

// args are what calls are given.
type args struct {
	l       []api.Job
	workers int
	s       []api.Slot
}

// answers are all calls, what they are given taken as it is.
var answers = map[string]func(a args) answer{
	"Check":    func(a args) answer { return answer{rest: checkText(plan.Check(a.l))} },
	"Ranks":    func(a args) answer { l, e := plan.Ranks(a.l); return answer{list: l, rest: checkText(e)} },
	"List":     func(a args) answer { s, e := plan.List(a.l, a.workers); return answer{slots: s, rest: checkText(e)} },
	"Right":    func(a args) answer { return answer{rest: isText(plan.Right(a.l, a.workers, a.s))} },
	"Span":     func(a args) answer { return answer{rest: spanText(plan.Span(a.s))} },
	"Critical": func(a args) answer { l, e := plan.Critical(a.l); return answer{list: l, rest: checkText(e)} },
	"Bounds":   func(a args) answer { return answer{rest: boundsText(plan.Bounds(a.l, a.workers))} },
	"Best":     func(a args) answer { return answer{rest: spanText(plan.Best(a.l, a.workers))} },
	"Slack":    func(a args) answer { l, e := plan.Slack(a.l); return answer{list: l, rest: checkText(e)} },
}

// roomy is the same arguments in memory of their own, with spare room that has something in it.
func (a args) roomy() args {
	jobs := append(slices.Clone(a.l), api.Job{Ticks: 7}, api.Job{Ticks: 8, Needs: []int{7}}, api.Job{})
	for job := range a.l {
		needs := append(slices.Clone(a.l[job].Needs), 7, 7, 7)
		jobs[job].Needs = needs[:len(a.l[job].Needs)]
	}
	slots := append(slices.Clone(a.s), slices.Repeat([]api.Slot{{Job: 7, Worker: 7, From: 7, To: 7}}, 3)...)
	return args{l: jobs[:len(a.l)], workers: a.workers, s: slots[:len(a.s)]}
}

// text is all that the arguments' memory has, spare room too.
func (a args) text() string {
	var words []string
	for _, job := range a.l[:cap(a.l)] {
		words = append(words, fmt.Sprint(job.Ticks, len(job.Needs), job.Needs[:cap(job.Needs)]))
	}
	return fmt.Sprint(words, a.s[:cap(a.s)])
}

func (a args) scribble() {
	whole := a.l[:cap(a.l)]
	for i := range whole {
		scribble(whole[i].Needs)
		whole[i].Ticks = -9
	}
	scribbleSlots(a.s)
}

// someArgs are arguments that are right, and that are not.
func someArgs() []args {
	four := jobsOf("3 2:0 2 4:2")
	all := []args{
		{l: four, workers: 2, s: slotsOf("2/0/0/2 0/1/0/3 3/0/2/6 1/1/3/5")},
		{l: jobsOf("1:1 1:0"), workers: 2, s: slotsOf("1/0/3/2")},
		{l: four, workers: 0},
		{l: jobsOf("0 0:0 0:1"), workers: 1, s: slotsOf("0/0/0/0 1/0/0/0 2/0/0/0")},
		{l: jobsOf("6 2 0 5:1 6:1 5:3,4"), workers: 2, s: slotsOf("0/0/0/6")},
		{l: line(40, 3, true), workers: 3, s: slotsOf("1/0/0/2")},
	}
	r := rand.New(rand.NewPCG(16, 5))
	for range 200 {
		l, workers := someJobs(r, 9, 5), 1+r.IntN(4)
		all = append(all, args{l: l, workers: workers, s: someSchedule(r, l, workers)})
	}
	return all
}

func TestArgumentsAreLeft(t *testing.T) {
	for _, of := range someArgs() {
		a := of.roomy()
		was := a.text()
		for name, call := range answers {
			told := call(a)
			wanted := call(of).text()
			want(t, told.text(), wanted, name, "with spare room")
			told.scribble()
			want(t, a.text(), was, name, "and its arguments")
			want(t, call(a).text(), wanted, name, "again, its answer scribbled over")
		}
	}
}

func TestAnswersAreNew(t *testing.T) {
	for _, of := range someArgs() {
		for name, call := range answers {
			a := of.roomy()
			told := call(a)
			was := told.text()
			a.scribble()
			want(t, told.text(), was, name, ": its answer, its arguments scribbled over")
			call(of.roomy()).scribble()
			want(t, told.text(), was, name, ": its answer, another one scribbled over")
		}
	}
}

// R6: no answer hangs on a capacity, where limits are and where places end.
func TestSpareRoomIsNothing(t *testing.T) {
	many := args{l: with(plan.MaxJobs, nil), workers: 2, s: make([]api.Slot, api.MaxItems)}.roomy()
	wantNoneWrong(t, many.l, "MaxJobs jobs with spare room")
	want(t, spanText(plan.Span(many.s)), "0", "Span of MaxItems slots with spare room")
	few := args{l: jobsOf("1 1 1 1 1 1"), workers: 2}.roomy()
	want(t, spanText(plan.Best(few.l, 2)), "3", "Best of MaxBest jobs with spare room")
	for n := range 4 {
		l := args{l: with(n, nil)}.roomy().l
		var slots []api.Slot
		for job := range n {
			slots = append(slots, api.Slot{Job: job, From: job, To: job + 1})
		}
		want(t, isText(plan.Right(l, 1, slots)), "true", "Right of", n, "jobs with spare room")
		for beyond := n; n > 0 && beyond < cap(l); beyond++ {
			slots[n-1].Job = beyond
			want(t, isText(plan.Right(l, 1, slots)), "false", "Right of", n, "jobs, one from the spare room")
		}
		l = append(l, api.Job{Needs: []int{n + 1}})
		want(t, checkText(plan.Check(l)), "error 160", "Check of", n, "jobs, and one that needs what is in the spare room")
	}
}

// R6: the same call tells the same, whatever was called ahead of it, or goes on beside it.
func TestSameAgain(t *testing.T) {
	all := someArgs()
	first := map[string][]string{}
	for name, call := range answers {
		for _, a := range all {
			first[name] = append(first[name], call(a).text())
		}
	}
	var callers sync.WaitGroup
	for caller := range uint64(4) {
		callers.Go(func() {
			r := rand.New(rand.NewPCG(16, caller))
			for range 500 {
				i := r.IntN(len(all))
				for name, call := range answers {
					want(t, call(all[i]).text(), first[name][i], name, "again")
				}
			}
		})
	}
	callers.Wait()
}
