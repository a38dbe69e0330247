package plan_test

import (
	"fmt"
	"math"
	"slices"
	"strconv"
	"strings"
	"testing"

	"onceweb/api"
	"onceweb/plan"
)

// jobsOf reads jobs: of each its ticks, and behind a colon the places that it needs (4:0,2).
func jobsOf(s string) []api.Job {
	var l []api.Job
	for word := range strings.FieldsSeq(s) {
		ticks, needs, some := strings.Cut(word, ":")
		job := api.Job{Ticks: number(ticks)}
		if some {
			for need := range strings.SplitSeq(needs, ",") {
				job.Needs = append(job.Needs, number(need))
			}
		}
		l = append(l, job)
	}
	return l
}

func number(s string) int {
	n, err := strconv.Atoi(s)
	if err != nil {
		panic(s)
	}
	return n
}

func jobsText(l []api.Job) string {
	var words []string
	for _, job := range l {
		word := strconv.Itoa(job.Ticks)
		for i, need := range job.Needs {
			word += map[bool]string{true: ":", false: ","}[i == 0] + strconv.Itoa(need)
		}
		words = append(words, word)
	}
	return strings.Join(words, " ")
}

// slotsOf reads slots: of each its job, its worker, from when, to when (3/0/2/6).
func slotsOf(s string) []api.Slot {
	var l []api.Slot
	for word := range strings.FieldsSeq(s) {
		parts := strings.Split(word, "/")
		l = append(l, api.Slot{Job: number(parts[0]), Worker: number(parts[1]), From: number(parts[2]), To: number(parts[3])})
	}
	return l
}

func slotsText(l []api.Slot) string {
	var words []string
	for _, slot := range l {
		words = append(words, fmt.Sprintf("%d/%d/%d/%d", slot.Job, slot.Worker, slot.From, slot.To))
	}
	return strings.Join(words, " ")
}

func numbers(l []int) string { return strings.Trim(fmt.Sprint(l), "[]") }

func checkText(e api.Errno) string {
	if e == api.OK {
		return "ok"
	}
	return e.Error()
}

// told is what was answered, or the error; anything but zero values beside one is odd.
func told(s string, zero bool, e api.Errno) string {
	switch {
	case e == api.OK:
		return s
	case !zero:
		return "odd: " + s + " " + e.Error()
	}
	return e.Error()
}

func listText(l []int, e api.Errno) string { return told(numbers(l), len(l) == 0, e) }

func slotText(l []api.Slot, e api.Errno) string { return told(slotsText(l), len(l) == 0, e) }

func isText(is bool, e api.Errno) string { return told(strconv.FormatBool(is), !is, e) }

func spanText(span int, e api.Errno) string { return told(strconv.Itoa(span), span == 0, e) }

func boundsText(work, longest, least int, e api.Errno) string {
	return told(fmt.Sprint(work, longest, least), work == 0 && longest == 0 && least == 0, e)
}

func want(t *testing.T, got, wanted string, what ...any) {
	t.Helper()
	if got != wanted {
		t.Errorf("%s: %s, want %s", strings.TrimSpace(fmt.Sprintln(what...)), got, wanted)
	}
}

// ofJobs are the calls that are given jobs alone.
var ofJobs = map[string]func(l []api.Job) string{
	"Check":    func(l []api.Job) string { return checkText(plan.Check(l)) },
	"Ranks":    func(l []api.Job) string { return listText(plan.Ranks(l)) },
	"Critical": func(l []api.Job) string { return listText(plan.Critical(l)) },
	"Slack":    func(l []api.Job) string { return listText(plan.Slack(l)) },
}

// byWorkers are those that are given a number of workers, too.
var byWorkers = map[string]func(l []api.Job, workers int) string{
	"List":       func(l []api.Job, workers int) string { return slotText(plan.List(l, workers)) },
	"Right":      func(l []api.Job, workers int) string { return isText(plan.Right(l, workers, nil)) },
	"Right of 1": func(l []api.Job, workers int) string { return isText(plan.Right(l, workers, make([]api.Slot, 1))) },
	"Bounds":     func(l []api.Job, workers int) string { return boundsText(plan.Bounds(l, workers)) },
	"Best":       func(l []api.Job, workers int) string { return spanText(plan.Best(l, workers)) },
}

var wrongWorkers = []int{0, -1, plan.MaxWorkers + 1, 1 << 20, math.MinInt, math.MaxInt}

// wantWrong holds all calls, by any number of workers, against one error of the jobs.
func wantWrong(t *testing.T, l []api.Job, wanted api.Errno, what string) {
	t.Helper()
	// Where Check lets a circle go through, the others need not end.
	if e := plan.Check(l); e != wanted {
		t.Errorf("Check of %s: %s, want %s", what, checkText(e), wanted.Error())
		return
	}
	for name, of := range ofJobs {
		want(t, of(l), wanted.Error(), name, "of", what)
	}
	for name, of := range byWorkers {
		for _, workers := range append([]int{1, 2, plan.MaxWorkers}, wrongWorkers...) {
			want(t, of(l, workers), wanted.Error(), name, "of", what, "by", workers)
		}
	}
}

// wantNoneWrong holds that no call tells an error.
func wantNoneWrong(t *testing.T, l []api.Job, what string) {
	t.Helper()
	want(t, checkText(plan.Check(l)), "ok", "Check of", what)
	for name, of := range ofJobs {
		if s := of(l); strings.Contains(s, "error") {
			t.Errorf("%s of %s: %s", name, what, s)
		}
	}
	for name, of := range byWorkers {
		for _, workers := range []int{1, 2, plan.MaxWorkers} {
			wanted := name == "Best" && len(l) > plan.MaxBest
			if s := of(l, workers); strings.Contains(s, "error") != wanted {
				t.Errorf("%s of %s by %d: %s", name, what, workers, s)
			}
		}
	}
}

// with is many jobs of 1 tick, but for some of them.
func with(many int, others map[int]api.Job) []api.Job {
	l := slices.Repeat([]api.Job{{Ticks: 1}}, many)
	for place, job := range others {
		l[place] = job
	}
	return l
}

// 16.1: each of these is told by all calls.
func TestWrongJobs(t *testing.T) {
	const most = plan.MaxJobs
	late, early := api.Job{Ticks: plan.MaxTicks + 1}, api.Job{Ticks: -1}
	lost := api.Job{Ticks: 1, Needs: []int{most}}
	for _, row := range []struct {
		what   string
		l      []api.Job
		wanted api.Errno
	}{
		{"one job too many", with(most+1, nil), api.ErrLong},
		{"far too many jobs", with(1<<17, nil), api.ErrLong},
		{"-1 tick", []api.Job{early}, api.ErrRange},
		{"one tick too many", []api.Job{late}, api.ErrRange},
		{"the least ticks", []api.Job{{Ticks: math.MinInt}}, api.ErrRange},
		{"the most ticks", []api.Job{{Ticks: math.MaxInt}}, api.ErrRange},
		{"-1 tick of the last one of all", with(most, map[int]api.Job{most - 1: early}), api.ErrRange},
		{"a tick too many of the last one of all", with(most, map[int]api.Job{most - 1: late}), api.ErrRange},
		{"needs -1", jobsOf("1 1:-1"), api.ErrNeeds},
		{"needs -1, the first one", jobsOf("1:-1 1"), api.ErrNeeds},
		{"needs itself", jobsOf("1:0"), api.ErrNeeds},
		{"needs itself, the last one", jobsOf("1 1 1:2"), api.ErrNeeds},
		{"needs the number of jobs", jobsOf("1 1:2"), api.ErrNeeds},
		{"needs the number of jobs, the first one", jobsOf("1:2 1"), api.ErrNeeds},
		{"needs what is beyond", jobsOf("1 1:300"), api.ErrNeeds},
		{"needs the greatest", []api.Job{{Needs: []int{math.MaxInt}}}, api.ErrNeeds},
		{"needs the least", []api.Job{{Needs: []int{math.MinInt}}}, api.ErrNeeds},
		{"needs MaxJobs", with(most, map[int]api.Job{0: lost}), api.ErrNeeds},
		{"needs one behind others", jobsOf("1 1 1:0,1,3"), api.ErrNeeds},
		{"needs one twice", jobsOf("1 1:0,0"), api.ErrNeeds},
		{"needs one twice, with another between", jobsOf("1 1 1:0,1,0"), api.ErrNeeds},
		{"needs one behind it twice", jobsOf("1:1,1 1"), api.ErrNeeds},
		{"as many needs as jobs", jobsOf("1 1:0,1"), api.ErrNeeds},
		{"more needs than jobs", jobsOf("1 1 1:0,1,0,1"), api.ErrNeeds},
		{"far more needs than jobs", []api.Job{{Ticks: 1}, {Ticks: 1, Needs: make([]int, 1<<17)}}, api.ErrNeeds},
		{"more needs than a list has members", with(most, map[int]api.Job{9: {Needs: make([]int, api.MaxItems+1)}}), api.ErrNeeds},
		{"a circle of two", jobsOf("1:1 1:0"), api.ErrNeeds},
		{"a circle of three", jobsOf("1:1 1:2 1:0"), api.ErrNeeds},
		{"a circle of three, the other way round", jobsOf("1:2 1:0 1:1"), api.ErrNeeds},
		{"a circle of two, one needs it", jobsOf("1:1 1:0 1:1"), api.ErrNeeds},
		{"a circle of two that needs one", jobsOf("1 1:2,0 1:1"), api.ErrNeeds},
		{"a circle of two, others stand by", jobsOf("1 1 1:0 1:4,1 1:3 1:0,1"), api.ErrNeeds},
		{"two circles", jobsOf("1:1 1:0 1:3 1:2"), api.ErrNeeds},
		{"a circle of jobs of 0 ticks", jobsOf("0:1 0:0"), api.ErrNeeds},
		{"a circle of two behind many", with(most, map[int]api.Job{most - 2: {Needs: []int{most - 1}}, most - 1: {Needs: []int{most - 2}}}), api.ErrNeeds},
		{"a circle of two ahead of many", with(most, map[int]api.Job{0: {Needs: []int{1}}, 1: {Needs: []int{0}}}), api.ErrNeeds},
		{"a circle of two that are far apart", with(most, map[int]api.Job{0: {Needs: []int{most - 1}}, most - 1: {Needs: []int{0}}}), api.ErrNeeds},
		{"a circle of two behind few", with(7, map[int]api.Job{5: {Needs: []int{6}}, 6: {Needs: []int{5}}}), api.ErrNeeds},
		{"a circle of all", round(most), api.ErrNeeds},
		{"all need all", everyone(most, func(job, need int) bool { return job != need }), api.ErrNeeds},
	} {
		wantWrong(t, row.l, row.wanted, row.what)
	}
}

// 16.1: of several things that are wrong the first one is told, job by job, and a circle behind all of them.
func TestWhichIsTold(t *testing.T) {
	const most = plan.MaxJobs
	for _, row := range []struct {
		what   string
		l      []api.Job
		wanted api.Errno
	}{
		{"too many, the first one of -1 tick", with(most+1, map[int]api.Job{0: {Ticks: -1}}), api.ErrLong},
		{"too many, the first one needs -1", with(most+1, map[int]api.Job{0: {Needs: []int{-1}}}), api.ErrLong},
		{"too many in a circle", round(most + 1), api.ErrLong},
		{"of one job ticks ahead of needs", []api.Job{{Ticks: -1, Needs: []int{-1}}}, api.ErrRange},
		{"of one job ticks ahead of itself", []api.Job{{Ticks: plan.MaxTicks + 1, Needs: []int{0}}}, api.ErrRange},
		{"the first one's needs ahead of the second one's ticks", jobsOf("1:5 -1"), api.ErrNeeds},
		{"the first one's twice ahead of the last one's ticks", jobsOf("1:1,1 1 -1"), api.ErrNeeds},
		{"the first one's ticks ahead of the second one's needs", jobsOf("-1 1:5"), api.ErrRange},
		{"a circle, and ticks behind it", jobsOf("1:1 1:0 -1"), api.ErrRange},
		{"a circle, and the ticks of one of it", jobsOf("1:1 -1:0"), api.ErrRange},
		{"a circle, and ticks behind it, too many", append(jobsOf("1:1 1:0"), api.Job{Ticks: plan.MaxTicks + 1}), api.ErrRange},
	} {
		wantWrong(t, row.l, row.wanted, row.what)
	}
}

// 16.1: the number of workers, behind all that is told of jobs, and ahead of all else.
func TestWorkers(t *testing.T) {
	for _, l := range [][]api.Job{nil, jobsOf("1"), jobsOf("3 2:0 2 4:2"), with(plan.MaxBest, nil), with(plan.MaxBest+1, nil), with(plan.MaxJobs, nil)} {
		for name, of := range byWorkers {
			for _, workers := range wrongWorkers {
				want(t, of(l, workers), "error 161", name, "of", len(l), "jobs by", workers)
			}
		}
		for workers := 1; workers <= plan.MaxWorkers; workers++ {
			if s, e := plan.List(l, workers); e != api.OK || len(s) != len(l) {
				t.Errorf("List of %d jobs by %d: %v, %v", len(l), workers, s, e)
			}
		}
	}
	// A schedule is looked at behind them, however long it is.
	want(t, isText(plan.Right(jobsOf("1"), 0, make([]api.Slot, 1<<17))), "error 161", "Right by 0")
}

// 16.1: what may be, at its edges.
func TestRightJobs(t *testing.T) {
	const most = plan.MaxJobs
	wantNoneWrong(t, nil, "no jobs")
	wantNoneWrong(t, []api.Job{}, "no jobs, but a list")
	wantNoneWrong(t, jobsOf("0"), "a job of 0 ticks")
	wantNoneWrong(t, jobsOf("1"), "a job")
	wantNoneWrong(t, []api.Job{{Ticks: plan.MaxTicks}}, "a job of MaxTicks")
	wantNoneWrong(t, []api.Job{{Ticks: plan.MaxTicks, Needs: []int{}}}, "a job with an empty list of needs")
	wantNoneWrong(t, jobsOf("1:1 1"), "a job that needs one behind it")
	wantNoneWrong(t, jobsOf("1:2,1 1:2 1"), "jobs that need those behind them")
	wantNoneWrong(t, jobsOf("1 1:0 1:0 1:2,1,0"), "as many needs as there are other jobs, in any order")
	wantNoneWrong(t, with(most, nil), "MaxJobs jobs")
	wantNoneWrong(t, with(most, map[int]api.Job{most - 1: {Ticks: plan.MaxTicks, Needs: []int{0}}}), "MaxJobs jobs, one of MaxTicks")
	wantNoneWrong(t, with(most, map[int]api.Job{0: {Needs: []int{most - 1}}}), "MaxJobs jobs, one needs the last one")
	wantNoneWrong(t, everyone(most, func(job, need int) bool { return need < job }), "MaxJobs jobs that need all ahead of them")
	wantNoneWrong(t, everyone(most, func(job, need int) bool { return need > job }), "MaxJobs jobs that need all behind them")
}

// round is jobs of 1 tick that need each other in one circle.
func round(many int) []api.Job {
	return everyone(many, func(job, need int) bool { return need == (job+1)%many })
}

// everyone is jobs of 1 tick that need each other as a function tells.
func everyone(many int, needs func(job, need int) bool) []api.Job {
	l := make([]api.Job, many)
	for job := range l {
		l[job].Ticks = 1
		for need := range many {
			if needs(job, need) {
				l[job].Needs = append(l[job].Needs, need)
			}
		}
	}
	return l
}

// chainRow is jobs, and what is told of their chains: bounds by 1, 2 and 3 workers.
type chainRow struct {
	jobs, ranks, critical, slack string
	bounds                       [3]string
}

func wantChains(t *testing.T, rows []chainRow) {
	t.Helper()
	for _, row := range rows {
		l := jobsOf(row.jobs)
		want(t, jobsText(l), row.jobs, "the table")
		want(t, listText(plan.Ranks(l)), row.ranks, "Ranks of", row.jobs)
		want(t, listText(plan.Critical(l)), row.critical, "Critical of", row.jobs)
		want(t, listText(plan.Slack(l)), row.slack, "Slack of", row.jobs)
		for i, wanted := range row.bounds {
			want(t, boundsText(plan.Bounds(l, i+1)), wanted, "Bounds of", row.jobs, "by", i+1)
		}
	}
}

// 16.2 and 16.5: ranks, the longest chain, slack, bounds.
func TestChains(t *testing.T) {
	wantChains(t, []chainRow{
		{"", "", "", "", [3]string{"0 0 0", "0 0 0", "0 0 0"}},
		{"0", "0", "0", "0", [3]string{"0 0 0", "0 0 0", "0 0 0"}},
		{"7", "7", "0", "0", [3]string{"7 7 7", "7 7 7", "7 7 7"}},
		{"3 2:0 2 4:2", "5 2 6 4", "2 3", "1 1 0 0", [3]string{"11 6 11", "11 6 6", "11 6 6"}},
		// No needs.
		{"1 2 3", "1 2 3", "2", "2 1 0", [3]string{"6 3 6", "6 3 3", "6 3 3"}},
		{"3 2 3", "3 2 3", "0", "0 1 0", [3]string{"8 3 8", "8 3 4", "8 3 3"}},
		// The sum by the workers, rounded up.
		{"1 1 1 1 1 1 1", "1 1 1 1 1 1 1", "0", "0 0 0 0 0 0 0", [3]string{"7 1 7", "7 1 4", "7 1 3"}},
		{"2 2 2", "2 2 2", "0", "0 0 0", [3]string{"6 2 6", "6 2 3", "6 2 2"}},
		{"2 2 3 3", "2 2 3 3", "2", "1 1 0 0", [3]string{"10 3 10", "10 3 5", "10 3 4"}},
		{"2 2 3 4", "2 2 3 4", "3", "2 2 1 0", [3]string{"11 4 11", "11 4 6", "11 4 4"}},
		// One line, upwards, downwards, and in between.
		{"1 2:0 3:1", "6 5 3", "0 1 2", "0 0 0", [3]string{"6 6 6", "6 6 6", "6 6 6"}},
		{"1:1 2:2 3", "1 3 6", "2 1 0", "0 0 0", [3]string{"6 6 6", "6 6 6", "6 6 6"}},
		{"1:2 2 3:1", "1 6 4", "1 2 0", "0 0 0", [3]string{"6 6 6", "6 6 6", "6 6 6"}},
		// Ways that part and meet again.
		{"1 2:0 3:0 4:1,2", "8 6 7 4", "0 2 3", "0 1 0 0", [3]string{"10 8 10", "10 8 8", "10 8 8"}},
		{"1 3:0 2:0 4:1,2", "8 7 6 4", "0 1 3", "0 0 1 0", [3]string{"10 8 10", "10 8 8", "10 8 8"}},
		{"4:1,2 2:3 3:3 1", "4 6 7 8", "3 2 0", "0 1 0 0", [3]string{"10 8 10", "10 8 8", "10 8 8"}},
		{"1 1:0 1:1 1:0 1:2,3", "4 3 2 2 1", "0 1 2 4", "0 0 0 1 0", [3]string{"5 4 5", "5 4 4", "5 4 4"}},
		{"1 9:0 1:0 1:1,2 5:2", "11 10 6 1 5", "0 1 3", "0 0 4 0 4", [3]string{"17 11 17", "17 11 11", "17 11 11"}},
		// A way past a job is a chain, too.
		{"5 1:0 5:0,1", "11 6 5", "0 1 2", "0 0 0", [3]string{"11 11 11", "11 11 11", "11 11 11"}},
		{"5 0:0 5:0,1", "10 5 5", "0 1 2", "0 0 0", [3]string{"10 10 10", "10 10 10", "10 10 10"}},
		{"5 5:0,2 0:0", "10 5 5", "0 1", "0 0 0", [3]string{"10 10 10", "10 10 10", "10 10 10"}},
		// Slack of jobs off the longest chain.
		{"9 1 1:1 1:2", "9 3 2 1", "0", "0 6 6 6", [3]string{"12 9 12", "12 9 9", "12 9 9"}},
		{"1 9 1:0,1", "2 10 1", "1 2", "8 0 0", [3]string{"11 10 11", "11 10 10", "11 10 10"}},
	})
}

// 16.2: of several chains of one length the one whose first place that differs is the least.
func TestChainsOfOneLength(t *testing.T) {
	wantChains(t, []chainRow{
		{"2 2:0 2 2:2", "4 2 4 2", "0 1", "0 0 0 0", [3]string{"8 4 8", "8 4 4", "8 4 4"}},
		{"2:1 2 2:3 2", "2 4 2 4", "1 0", "0 0 0 0", [3]string{"8 4 8", "8 4 4", "8 4 4"}},
		{"1 2:0 2:0 3:2 3:1", "6 5 5 3 3", "0 1 4", "0 0 0 0 0", [3]string{"11 6 11", "11 6 6", "11 6 6"}},
		{"1 2:0 2:0 1:1,2", "4 3 3 1", "0 1 3", "0 0 0 0", [3]string{"6 4 6", "6 4 4", "6 4 4"}},
		{"2 1:0 1:1 2:0 4", "4 2 1 2 4", "0 1 2", "0 0 0 0 0", [3]string{"10 4 10", "10 4 5", "10 4 4"}},
		{"2 2:0 1:3 1:0 4", "4 2 1 2 4", "0 1", "0 0 0 0 0", [3]string{"10 4 10", "10 4 5", "10 4 4"}},
		{"4 2 2:1", "4 4 2", "0", "0 0 0", [3]string{"8 4 8", "8 4 4", "8 4 4"}},
		{"2 4 2:0", "4 4 2", "0 2", "0 0 0", [3]string{"8 4 8", "8 4 4", "8 4 4"}},
	})
}

// 16.2: jobs of 0 ticks are not in a longest chain at its end; ahead and between they are.
func TestChainsOfNoTicks(t *testing.T) {
	wantChains(t, []chainRow{
		{"5 0:0", "5 0", "0", "0 0", [3]string{"5 5 5", "5 5 5", "5 5 5"}},
		{"0:1 5", "0 5", "1", "0 0", [3]string{"5 5 5", "5 5 5", "5 5 5"}},
		{"5 0:0 0:1", "5 0 0", "0", "0 0 0", [3]string{"5 5 5", "5 5 5", "5 5 5"}},
		{"0 5:0", "5 5", "0 1", "0 0", [3]string{"5 5 5", "5 5 5", "5 5 5"}},
		{"5:1 0", "5 5", "0", "0 0", [3]string{"5 5 5", "5 5 5", "5 5 5"}},
		{"1 0:0 1:1", "2 1 1", "0 1 2", "0 0 0", [3]string{"2 2 2", "2 2 2", "2 2 2"}},
		{"1 1:0 0:1 0 1:3", "2 1 0 1 1", "0 1", "0 0 0 1 1", [3]string{"3 2 3", "3 2 2", "3 2 2"}},
		{"0 0:0 5:0,1", "5 5 5", "0 1 2", "0 0 0", [3]string{"5 5 5", "5 5 5", "5 5 5"}},
		{"0 1", "0 1", "1", "1 0", [3]string{"1 1 1", "1 1 1", "1 1 1"}},
		{"0 0 1:0", "1 0 1", "0 2", "0 1 0", [3]string{"1 1 1", "1 1 1", "1 1 1"}},
		// All of 0 ticks: one job is a longest chain.
		{"0 0 0", "0 0 0", "0", "0 0 0", [3]string{"0 0 0", "0 0 0", "0 0 0"}},
		{"0:1 0", "0 0", "0", "0 0", [3]string{"0 0 0", "0 0 0", "0 0 0"}},
		{"0 0:0 0:1", "0 0 0", "0", "0 0 0", [3]string{"0 0 0", "0 0 0", "0 0 0"}},
	})
}

// line is jobs in one line: each needs the one ahead of it, or the one behind it.
func line(many, ticks int, down bool) []api.Job {
	l := everyone(many, func(job, need int) bool { return !down && need == job-1 || down && need == job+1 })
	for job := range l {
		l[job].Ticks = ticks
	}
	return l
}

func counted(many int, of func(i int) int) string {
	l := make([]int, many)
	for i := range l {
		l[i] = of(i)
	}
	return numbers(l)
}

// As many jobs as may be, with as many ticks: in a line, and each needing all ahead.
func TestMostJobs(t *testing.T) {
	const most, long = plan.MaxJobs, plan.MaxTicks
	itself, zero := func(i int) int { return i }, func(int) int { return 0 }
	all := everyone(most, func(job, need int) bool { return need < job })
	for job := range all {
		all[job].Ticks = long
	}
	for name, l := range map[string][]api.Job{"a line": line(most, long, false), "all ahead": all} {
		want(t, listText(plan.Ranks(l)), counted(most, func(i int) int { return (most - i) * long }), "Ranks of", name)
		want(t, listText(plan.Critical(l)), counted(most, itself), "Critical of", name)
		want(t, listText(plan.Slack(l)), counted(most, zero), "Slack of", name)
		want(t, boundsText(plan.Bounds(l, 3)), fmt.Sprint(most*long, most*long, most*long), "Bounds of", name)
		var slots []api.Slot
		for job := range most {
			slots = append(slots, api.Slot{Job: job, From: job * long, To: (job + 1) * long})
		}
		want(t, slotText(plan.List(l, 16)), slotsText(slots), "List of", name)
		want(t, isText(plan.Right(l, 1, slots)), "true", "Right of", name)
		want(t, spanText(plan.Span(slots)), strconv.Itoa(most*long), "Span of", name)
	}
	down := line(most, long, true)
	want(t, listText(plan.Critical(down)), counted(most, func(i int) int { return most - 1 - i }), "Critical downwards")
	want(t, listText(plan.Ranks(down)), counted(most, func(i int) int { return (i + 1) * long }), "Ranks downwards")
	apart := with(most, nil)
	for job := range apart {
		apart[job].Ticks = long
	}
	want(t, boundsText(plan.Bounds(apart, 16)), fmt.Sprint(most*long, long, most/16*long), "Bounds of jobs without needs")
	want(t, boundsText(plan.Bounds(apart, 15)), fmt.Sprint(most*long, long, (most*long+14)/15), "Bounds of jobs without needs")
	want(t, boundsText(plan.Bounds(with(most, nil), 15)), "256 1 18", "Bounds of jobs of 1 tick")
}
