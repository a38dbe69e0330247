package plan_test

import (
	"fmt"
	"math"
	"slices"
	"strings"
	"testing"

	"onceweb/api"
	"onceweb/plan"
)

// listRow is jobs, by some workers, and the slots in the order in which the jobs begin.
type listRow struct {
	jobs    string
	workers int
	wanted  string
}

func wantListed(t *testing.T, rows []listRow) {
	t.Helper()
	for _, row := range rows {
		l := jobsOf(row.jobs)
		want(t, slotText(plan.List(l, row.workers)), row.wanted, "List of", row.jobs, "by", row.workers)
		want(t, isText(plan.Right(l, row.workers, slotsOf(row.wanted))), "true", "Right of", row.jobs, "by", row.workers)
	}
}

// 16.3: who takes what, and when.
func TestList(t *testing.T) {
	wantListed(t, []listRow{
		{"", 1, ""},
		{"", 16, ""},
		{"3", 1, "0/0/0/3"},
		{"3", 16, "0/0/0/3"},
		{"0", 1, "0/0/0/0"},
		// The chapter's examples, and by more workers than are of use.
		{"3 2:0 2 4:2", 2, "2/0/0/2 0/1/0/3 3/0/2/6 1/1/3/5"},
		{"3 2:0 2 4:2", 1, "2/0/0/2 0/0/2/5 3/0/5/9 1/0/9/11"},
		{"3 2:0 2 4:2", 3, "2/0/0/2 0/1/0/3 3/0/2/6 1/1/3/5"},
		{"3 2:0 2 4:2", 4, "2/0/0/2 0/1/0/3 3/0/2/6 1/1/3/5"},
		{"3 2:0 2 4:2", 16, "2/0/0/2 0/1/0/3 3/0/2/6 1/1/3/5"},
		// As many workers as jobs: each begins as soon as it may, by the free worker of the least number.
		{"1 2 3", 3, "2/0/0/3 1/1/0/2 0/2/0/1"},
		{"1 2 3 1:0", 4, "2/0/0/3 0/1/0/1 1/2/0/2 3/1/1/2"},
		// The greatest rank, not the most ticks.
		{"5 1 9:1", 1, "1/0/0/1 2/0/1/10 0/0/10/15"},
		{"5 1 4:1", 1, "0/0/0/5 1/0/5/6 2/0/6/10"},
		{"5 1 5:1", 1, "1/0/0/1 0/0/1/6 2/0/6/11"},
		// Several ready ones of one rank: the one of the least place.
		{"2 2 2", 1, "0/0/0/2 1/0/2/4 2/0/4/6"},
		{"2 2 2", 2, "0/0/0/2 1/1/0/2 2/0/2/4"},
		{"1 3 2:0 1:1", 1, "1/0/0/3 0/0/3/4 2/0/4/6 3/0/6/7"},
		{"1:3 1 1:1 1", 1, "1/0/0/1 3/0/1/2 0/0/2/3 2/0/3/4"},
		{"1 1 1 1 1 1 1 1 1 1 1 1", 5, "0/0/0/1 1/1/0/1 2/2/0/1 3/3/0/1 4/4/0/1 5/0/1/2 6/1/1/2 7/2/1/2 8/3/1/2 9/4/1/2 10/0/2/3 11/1/2/3"},
		// Some come to be ready later, with a greater rank than those that wait.
		{"1 2 2 2 9:0", 1, "0/0/0/1 4/0/1/10 1/0/10/12 2/0/12/14 3/0/14/16"},
		{"3 3 3 1 1:3 1:4", 2, "0/0/0/3 1/1/0/3 2/0/3/6 3/1/3/4 4/1/4/5 5/1/5/6"},
		{"2 2 2 1 1:3 1:4", 2, "3/0/0/1 0/1/0/2 1/0/1/3 2/1/2/4 4/0/3/4 5/0/4/5"},
		// Several workers are free at one time, and jobs end at one time: all that hangs on them is ready then.
		{"2 2 1:0 3:1", 2, "1/0/0/2 0/1/0/2 3/0/2/5 2/1/2/3"},
		{"2 2 1:0,1", 2, "0/0/0/2 1/1/0/2 2/0/2/3"},
		{"3 1 2:1 4:0 4:2", 2, "0/0/0/3 1/1/0/1 2/1/1/3 3/0/3/7 4/1/3/7"},
		{"1 2 3 3:0 2:1 1:2 7:3,4,5", 3, "0/0/0/1 1/1/0/2 2/2/0/3 3/0/1/4 4/1/2/4 5/2/3/4 6/0/4/11"},
		// The free worker of the least number, though another one was free ahead of it.
		{"4 1 2 1:0 1:0", 3, "0/0/0/4 2/1/0/2 1/2/0/1 3/0/4/5 4/1/4/5"},
		{"2 3 1:0,1 1:1", 2, "1/0/0/3 0/1/0/2 2/0/3/4 3/1/3/4"},
		{"3 4 5 1:0,1", 3, "1/0/0/4 2/1/0/5 0/2/0/3 3/0/4/5"},
		// Nobody waits for a job that is not ready yet while one is, though that would be better (TestBest).
		{"6 2 0 5:1 6:1 5:3,4", 2, "1/0/0/2 0/1/0/6 4/0/2/8 3/1/6/11 2/0/8/8 5/0/11/16"},
		{"2 2 2 1 5:3", 2, "3/0/0/1 0/1/0/2 4/0/1/6 1/1/2/4 2/1/4/6"},
		{"3 3 1 1:2 5:3 1", 2, "2/0/0/1 0/1/0/3 3/0/1/2 4/0/2/7 1/1/3/6 5/1/6/7"},
	})
}

// 16.3: of jobs of 0 ticks the worker is free again at once, and what hangs on them is ready at once.
func TestListOfNoTicks(t *testing.T) {
	wantListed(t, []listRow{
		{"0 0 0", 1, "0/0/0/0 1/0/0/0 2/0/0/0"},
		{"0 0 0", 3, "0/0/0/0 1/0/0/0 2/0/0/0"},
		{"0 0:0 0:1", 1, "0/0/0/0 1/0/0/0 2/0/0/0"},
		{"0:1 0:2 0", 2, "2/0/0/0 1/0/0/0 0/0/0/0"},
		{"0:2 0 0", 2, "1/0/0/0 2/0/0/0 0/0/0/0"},
		{"0 0:0 5:1 3", 1, "0/0/0/0 1/0/0/0 2/0/0/5 3/0/5/8"},
		{"0 0:0 5:1 3", 2, "0/0/0/0 1/0/0/0 2/0/0/5 3/1/0/3"},
		{"0 0:0 2:1 3", 2, "3/0/0/3 0/1/0/0 1/1/0/0 2/1/0/2"},
		{"3 0 0:1", 1, "0/0/0/3 1/0/3/3 2/0/3/3"},
		{"3 0 0:1", 2, "0/0/0/3 1/1/0/0 2/1/0/0"},
		{"3 2 0 0:2", 2, "0/0/0/3 1/1/0/2 2/1/2/2 3/1/2/2"},
		{"2 0:0 4:1 1", 1, "0/0/0/2 1/0/2/2 2/0/2/6 3/0/6/7"},
		{"2 0:0 4:1 1", 2, "0/0/0/2 3/1/0/1 1/0/2/2 2/0/2/6"},
		{"1 0:0 0:0 0:1,2", 2, "0/0/0/1 1/0/1/1 2/0/1/1 3/0/1/1"},
		{"1 1 0:0,1 1:2 1:2", 2, "0/0/0/1 1/1/0/1 2/0/1/1 3/0/1/2 4/1/1/2"},
		{"4 1 0:1 0:2 0:3", 1, "0/0/0/4 1/0/4/5 2/0/5/5 3/0/5/5 4/0/5/5"},
		// A job of 0 ticks lets one of a greater rank be ready ahead of what waits at that time.
		{"0 2 2:0 3:2", 1, "0/0/0/0 2/0/0/2 3/0/2/5 1/0/5/7"},
		{"4 0 4:1 4", 1, "0/0/0/4 1/0/4/4 2/0/4/8 3/0/8/12"},
		{"4 4 0 4:2 4", 2, "0/0/0/4 1/1/0/4 2/0/4/4 3/0/4/8 4/1/4/8"},
	})
}

// rightRow is jobs, by some workers, slots, and whether these are right.
type rightRow struct {
	jobs    string
	workers int
	slots   string
	wanted  string
}

func wantRight(t *testing.T, rows []rightRow) {
	t.Helper()
	for _, row := range rows {
		want(t, isText(plan.Right(jobsOf(row.jobs), row.workers, slotsOf(row.slots))), row.wanted, "Right of", row.jobs, "by", row.workers, ":", row.slots)
	}
}

const four = "3 2:0 2 4:2" // the chapter's example

// 16.4: just one slot for each job, in any order.
func TestRightOneSlotEach(t *testing.T) {
	wantRight(t, []rightRow{
		{"", 1, "", "true"},
		{"", 16, "", "true"},
		{"", 1, "0/0/0/0", "false"},
		{"3", 1, "0/0/0/3", "true"},
		{"3", 1, "", "false"},
		// The list schedule, its slots in another order, later, with workers changed over.
		{four, 2, "2/0/0/2 0/1/0/3 3/0/2/6 1/1/3/5", "true"},
		{four, 2, "1/1/3/5 3/0/2/6 0/1/0/3 2/0/0/2", "true"},
		{four, 2, "3/0/2/6 2/0/0/2 1/1/3/5 0/1/0/3", "true"},
		{four, 2, "2/1/0/2 0/0/0/3 3/1/2/6 1/0/3/5", "true"},
		{four, 2, "2/0/0/2 0/1/0/3 3/1/3/7 1/0/3/5", "true"},
		{four, 2, "2/0/5/7 0/1/1/4 3/0/90/94 1/1/4/6", "true"},
		{four, 4, "0/3/0/3 1/2/3/5 2/1/0/2 3/0/2/6", "true"},
		{four, 1, "2/0/0/2 0/0/2/5 3/0/5/9 1/0/9/11", "true"},
		// Too few slots, too many, one job twice.
		{four, 2, "", "false"},
		{four, 2, "2/0/0/2", "false"},
		{four, 2, "2/0/0/2 0/1/0/3 3/0/2/6", "false"},
		{four, 2, "0/1/0/3 3/0/2/6 1/1/3/5", "false"},
		{four, 2, "2/0/0/2 0/1/0/3 3/0/2/6 1/1/3/5 1/1/3/5", "false"},
		{four, 2, "2/0/0/2 0/1/0/3 3/0/2/6 1/1/3/5 1/1/5/7", "false"},
		{four, 2, "2/0/0/2 0/1/0/3 3/0/2/6 3/0/6/10", "false"},
		{"1 1", 2, "0/0/0/1 0/1/0/1", "false"},
		{"1 1", 2, "1/0/0/1 1/1/0/1", "false"},
		{"1 1", 2, "0/0/0/1 1/1/0/1 0/0/1/2", "false"},
		{"0 0", 2, "0/0/0/0 0/0/0/0", "false"},
	})
}

// 16.4: a job, a worker that is none; From below 0, and To that is not Ticks behind it.
func TestRightSlots(t *testing.T) {
	wantRight(t, []rightRow{
		{"1", 1, "-1/0/0/1", "false"},
		{"1", 1, "1/0/0/1", "false"},
		{"1", 1, "300/0/0/1", "false"},
		{"1 1", 1, "0/0/0/1 2/0/1/2", "false"},
		{"1 1", 1, "0/0/0/1 -1/0/1/2", "false"},
		{"1", 1, "0/-1/0/1", "false"},
		{"1", 1, "0/1/0/1", "false"},
		{"1", 16, "0/15/0/1", "true"},
		{"1", 16, "0/16/0/1", "false"},
		{"1", 2, "0/1/0/1", "true"},
		{"1", 2, "0/2/0/1", "false"},
		{four, 1, "2/0/0/2 0/1/0/3 3/0/2/6 1/1/3/5", "false"},
		// Times.
		{"1", 1, "0/0/-1/0", "false"},
		{"0", 1, "0/0/-1/-1", "false"},
		{"0", 1, "0/0/0/0", "true"},
		{"0", 1, "0/0/7/7", "true"},
		{"0", 1, "0/0/7/8", "false"},
		{"0", 1, "0/0/7/6", "false"},
		{"3", 1, "0/0/0/2", "false"},
		{"3", 1, "0/0/0/4", "false"},
		{"3", 1, "0/0/5/8", "true"},
		{"3", 1, "0/0/5/7", "false"},
		{"3", 1, "0/0/5/2", "false"},
		{"3", 1, "0/0/5/5", "false"},
		{"1", 1, "0/0/-3/-2", "false"},
	})
}

// 16.4: one that begins ahead of the end of what it needs.
func TestRightBehindNeeds(t *testing.T) {
	wantRight(t, []rightRow{
		{"3 2:0", 2, "0/0/0/3 1/1/3/5", "true"},
		{"3 2:0", 2, "0/0/0/3 1/1/2/4", "false"},
		{"3 2:0", 2, "1/1/2/4 0/0/0/3", "false"},
		{"3 2:0", 2, "0/0/2/5 1/1/0/2", "false"},
		{"2:1 3", 2, "1/0/0/3 0/0/3/5", "true"},
		{"2:1 3", 2, "0/1/2/4 1/0/0/3", "false"},
		{"1 5 1:0,1", 3, "0/0/0/1 1/1/0/5 2/2/5/6", "true"},
		{"1 5 1:0,1", 3, "0/0/0/1 1/1/0/5 2/2/4/5", "false"},
		{"5 1 1:0,1", 3, "0/0/0/5 1/1/0/1 2/2/4/5", "false"},
		{"0 0:0", 1, "0/0/3/3 1/0/3/3", "true"},
		{"0 0:0", 1, "0/0/3/3 1/0/2/2", "false"},
		{"0 3:0", 1, "0/0/0/0 1/0/0/3", "true"},
		{"0 3:0", 2, "0/0/1/1 1/1/0/3", "false"},
		{"3 0:0", 2, "0/0/0/3 1/1/2/2", "false"},
	})
}

// 16.4: two jobs of one worker at once; of 0 ticks, too.
func TestRightOneAtATime(t *testing.T) {
	wantRight(t, []rightRow{
		{"3 3", 1, "0/0/0/3 1/0/3/6", "true"},
		{"3 3", 1, "0/0/3/6 1/0/0/3", "true"},
		{"3 3", 1, "0/0/0/3 1/0/2/5", "false"},
		{"3 3", 1, "0/0/2/5 1/0/0/3", "false"},
		{"3 3", 1, "0/0/0/3 1/0/0/3", "false"},
		{"3 3", 2, "0/1/0/3 1/1/0/3", "false"},
		{"3 3", 2, "0/0/0/3 1/1/0/3", "true"},
		{"9 1", 1, "0/0/0/9 1/0/4/5", "false"},
		{"1 9", 1, "0/0/4/5 1/0/0/9", "false"},
		{"1 1 1", 2, "0/0/0/1 1/1/0/1 2/0/0/1", "false"},
		{"1 1 1", 2, "0/1/0/1 1/0/0/1 2/0/0/1", "false"},
		// Of 0 ticks: at the other one's beginning and end, not within it.
		{"3 0", 1, "0/0/2/5 1/0/2/2", "true"},
		{"3 0", 1, "0/0/2/5 1/0/5/5", "true"},
		{"3 0", 1, "0/0/2/5 1/0/1/1", "true"},
		{"3 0", 1, "0/0/2/5 1/0/6/6", "true"},
		{"3 0", 1, "0/0/2/5 1/0/3/3", "false"},
		{"3 0", 1, "0/0/2/5 1/0/4/4", "false"},
		{"0 3", 1, "0/0/3/3 1/0/2/5", "false"},
		{"3 0", 2, "0/0/2/5 1/1/3/3", "true"},
		{"3 0", 2, "0/1/2/5 1/1/3/3", "false"},
		{"0 0 0", 1, "0/0/4/4 1/0/4/4 2/0/4/4", "true"},
	})
}

// 16.4: times at the edges of ints wrap nowhere; a schedule may be of any length, and have any time.
func TestRightAtTheEdges(t *testing.T) {
	one, far := []api.Job{{Ticks: 1}}, []api.Job{{Ticks: plan.MaxTicks}}
	for _, row := range []struct {
		l      []api.Job
		s      api.Slot
		wanted string
	}{
		{one, api.Slot{From: math.MaxInt, To: math.MinInt}, "false"},
		{one, api.Slot{From: math.MaxInt - 1, To: math.MaxInt}, "true"},
		{one, api.Slot{From: math.MaxInt, To: math.MaxInt}, "false"},
		{one, api.Slot{From: math.MinInt, To: math.MinInt + 1}, "false"},
		{one, api.Slot{From: -1, To: math.MaxInt}, "false"},
		{one, api.Slot{From: 0, To: math.MinInt + 1}, "false"},
		{one, api.Slot{From: api.MaxTick, To: api.MaxTick + 1}, "true"},
		{far, api.Slot{From: 0, To: plan.MaxTicks}, "true"},
		{far, api.Slot{From: math.MaxInt - plan.MaxTicks + 1, To: math.MinInt}, "false"},
		{one, api.Slot{Job: math.MinInt, To: 1}, "false"},
		{one, api.Slot{Job: math.MaxInt, To: 1}, "false"},
		{one, api.Slot{Worker: math.MinInt, To: 1}, "false"},
		{one, api.Slot{Worker: math.MaxInt, To: 1}, "false"},
	} {
		want(t, isText(plan.Right(row.l, 1, []api.Slot{row.s})), row.wanted, "Right of", row.s)
	}
	for _, many := range []int{2, plan.MaxJobs, api.MaxItems, api.MaxItems + 1, 1 << 17} {
		want(t, isText(plan.Right(one, 1, slices.Repeat([]api.Slot{{To: 1}}, many))), "false", "Right of one job,", many, "slots")
	}
	all, slots := with(plan.MaxJobs, nil), make([]api.Slot, plan.MaxJobs)
	for job := range slots {
		slots[job] = api.Slot{Job: job, Worker: job % 16, From: job / 16, To: job/16 + 1}
	}
	want(t, isText(plan.Right(all, 16, slots)), "true", "Right of MaxJobs jobs")
	want(t, isText(plan.Right(all, 15, slots)), "false", "Right of MaxJobs jobs by one less")
	slots[plan.MaxJobs-1].From, slots[plan.MaxJobs-1].To = 0, 1
	want(t, isText(plan.Right(all, 16, slots)), "false", "Right of MaxJobs jobs, the last two at once")
}

// 16.4: Span.
func TestSpan(t *testing.T) {
	const late = api.MaxTick
	times := func(l ...[2]int) (s []api.Slot) {
		for _, at := range l {
			s = append(s, api.Slot{From: at[0], To: at[1]})
		}
		return s
	}
	for _, row := range []struct {
		s      []api.Slot
		wanted string
	}{
		{nil, "0"},
		{[]api.Slot{}, "0"},
		{times([2]int{0, 0}), "0"},
		{times([2]int{0, 3}), "3"},
		{times([2]int{2, 2}), "2"},
		{times([2]int{0, 3}, [2]int{1, 2}), "3"},
		{times([2]int{1, 2}, [2]int{0, 3}), "3"},
		{times([2]int{0, 3}, [2]int{9, 12}, [2]int{3, 9}), "12"},
		{times([2]int{-1, 0}), "error 1"},
		{times([2]int{-1, 3}), "error 1"},
		{times([2]int{0, -1}), "error 1"},
		{times([2]int{-1, -1}), "error 1"},
		{times([2]int{3, 2}), "error 1"},
		{times([2]int{1, 0}), "error 1"},
		{times([2]int{late, late}), "1099511627776"},
		{times([2]int{0, late}), "1099511627776"},
		{times([2]int{0, late + 1}), "error 1"},
		{times([2]int{late, late + 1}), "error 1"},
		{times([2]int{late + 1, late + 1}), "error 1"},
		{times([2]int{late + 1, late}), "error 1"},
		{times([2]int{math.MinInt, math.MaxInt}), "error 1"},
		{times([2]int{math.MaxInt, math.MinInt}), "error 1"},
		{times([2]int{0, math.MaxInt}), "error 1"},
		{times([2]int{0, 3}, [2]int{5, 4}), "error 1"},
		{times([2]int{5, 4}, [2]int{0, 3}), "error 1"},
		{times([2]int{0, 3}, [2]int{-1, 4}, [2]int{0, 3}), "error 1"},
		// The jobs and workers are not looked at.
		{slotsOf("-1/-1/0/3 -1/-1/0/3"), "3"},
		{slotsOf("9/99/0/3 9/99/1/2"), "3"},
		// So many.
		{slices.Repeat(times([2]int{1, 4}), api.MaxItems), "4"},
		{slices.Repeat(times([2]int{1, 4}), api.MaxItems+1), "error 3"},
		{slices.Repeat(times([2]int{1, 4}), 1<<17), "error 3"},
		{slices.Repeat(times([2]int{4, 1}), api.MaxItems), "error 1"},
		{slices.Repeat(times([2]int{4, 1}), api.MaxItems+1), "error 3"},
		{append(slices.Repeat(times([2]int{1, 4}), api.MaxItems-1), api.Slot{From: 1, To: 7}), "7"},
		{append(slices.Repeat(times([2]int{1, 4}), api.MaxItems-1), api.Slot{From: 1, To: 0}), "error 1"},
	} {
		name := fmt.Sprint(len(row.s), " slots")
		if len(row.s) < 9 {
			name = slotsText(row.s)
		}
		want(t, spanText(plan.Span(row.s)), row.wanted, "Span of", name)
	}
}

// 16.5: the best span, beside that of the list schedule.
func TestBest(t *testing.T) {
	for _, row := range []struct {
		jobs       string
		workers    int
		best, list int
	}{
		{"", 1, 0, 0},
		{"", 16, 0, 0},
		{"0", 1, 0, 0},
		{"3", 1, 3, 3},
		{"3", 16, 3, 3},
		{"3 2:0 2 4:2", 1, 11, 11},
		{"3 2:0 2 4:2", 2, 6, 6},
		{"3 2:0 2 4:2", 16, 6, 6},
		{"1 1 1 1 1 1", 1, 6, 6},
		{"1 1 1 1 1 1", 4, 2, 2},
		{"1 1 1 1 1 1", 6, 1, 1},
		{"1 1 1 1 1 1", 16, 1, 1},
		{"1073741824 1073741824 1073741824 1073741824 1073741824 1073741824", 1, 6 << 30, 6 << 30},
		{"1073741824 1073741824 1073741824 1073741824 1073741824 1073741824", 4, 2 << 30, 2 << 30},
		{"1 2:0 3:1 4:2 5:3 6:4", 9, 21, 21},
		// The list schedule is longer than the best one: what stands ahead by its rank does not fit.
		{"3 3 2 2 2", 2, 6, 7},
		{"5 5 4 4 3 3", 2, 12, 12},
		{"5 4 3 3 3", 2, 9, 10},
		{"7 7 6 6 5 5", 2, 18, 18},
		{"5 5 4 4 3 3", 3, 8, 8},
		// It is best to let a worker wait for a job that is not ready yet.
		{"6 2 0 5:1 6:1 5:3,4", 2, 13, 16},
		{"1 0 5:0 4 6:0 4", 3, 8, 9},
		{"5 1:0 6:1 5:0 5:1 6:2,4", 2, 18, 21},
		{"6 1 6:1 6:1", 2, 12, 12},
		{"0 0 0 0 0 0", 1, 0, 0},
		{"0 5 0:1 5:2", 2, 10, 10},
		{"0 3 0:0 3:2", 1, 6, 6},
	} {
		l := jobsOf(row.jobs)
		want(t, spanText(plan.Best(l, row.workers)), fmt.Sprint(row.best), "Best of", row.jobs, "by", row.workers)
		s, _ := plan.List(l, row.workers)
		want(t, spanText(plan.Span(s)), fmt.Sprint(row.list), "Span of List of", row.jobs, "by", row.workers)
	}
}

// 16.5: of MaxBest jobs and one more; what 16.1 says comes ahead.
func TestBestOfMany(t *testing.T) {
	const most = plan.MaxBest
	want(t, spanText(plan.Best(with(most, nil), 2)), "3", "Best of MaxBest jobs")
	want(t, spanText(plan.Best(with(most+1, nil), 2)), "error 3", "Best of one more")
	want(t, spanText(plan.Best(with(plan.MaxJobs, nil), 2)), "error 3", "Best of MaxJobs")
	want(t, spanText(plan.Best(with(plan.MaxJobs+1, nil), 2)), "error 3", "Best of too many")
	want(t, spanText(plan.Best(with(most+1, nil), 0)), "error 161", "Best of one more by 0")
	want(t, spanText(plan.Best(with(most+1, map[int]api.Job{most: {Ticks: -1}}), 2)), "error 1", "Best of one more, wrong ticks")
	want(t, spanText(plan.Best(with(most+1, map[int]api.Job{most: {Needs: []int{most}}}), 2)), "error 160", "Best of one more, wrong needs")
	want(t, spanText(plan.Best(round(most+1), 2)), "error 160", "Best of one more, in a circle")
	want(t, spanText(plan.Best(round(most), 2)), "error 160", "Best of a circle")
	for workers := 1; workers <= plan.MaxWorkers; workers++ {
		wanted := map[int]string{1: "12", 2: "6", 3: "4", 4: "4", 5: "4"}[workers]
		if workers >= most {
			wanted = "2"
		}
		want(t, spanText(plan.Best(jobsOf(strings.Repeat("2 ", most)), workers)), wanted, "Best of jobs of 2 ticks by", workers)
	}
}
