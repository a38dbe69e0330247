package depend_test

import (
	"math/rand/v2"
	"slices"
	"testing"

	"onceweb/api"
	"onceweb/depend"
)

// someWeb is a web behind many calls.
func someWeb(r *rand.Rand, s some) *depend.Web {
	w := depend.New()
	for range r.IntN(400) {
		s.call(r).of(w)
	}
	return w
}

// wantEnds goes from each task to the one that runs what it waits for: that ends at one that does not wait.
func wantEnds(t *testing.T, w *depend.Web, tasks int) {
	t.Helper()
	for task := range tasks {
		at, steps := task, 0
		for {
			cell, waits, _ := w.Waiting(at)
			if !waits {
				break
			}
			runner, runs, _ := w.Runner(cell)
			if steps++; !runs || steps > tasks {
				t.Fatalf("task %d: no end of waits (%v): %s", task, runs, wholeOf(w))
			}
			at = runner
		}
	}
}

// 14.6: whatever is called, waits make no circle.
func TestNoDeadlock(t *testing.T) {
	for _, at := range allWebs(3, 3) {
		wantEnds(t, at.w, 3)
	}
	r := rand.New(rand.NewPCG(14, 6))
	for range 100 {
		s, w := someOf(r), depend.New()
		for range 300 {
			s.call(r).of(w)
			wantEnds(t, w, s.tasks)
		}
	}
}

// leads tells, by what a web tells of itself, whether a cell leads to another one.
func leads(w *depend.Web, from, to int) bool {
	runner, runs, _ := w.Runner(from)
	if !runs {
		return false
	}
	stack, _ := w.Stack(runner)
	if above := slices.Index(stack, from) + 1; above < len(stack) {
		return stack[above] == to
	}
	cell, waits, _ := w.Waiting(runner)
	return waits && cell == to
}

// reaches tells whether a way of waits leads from the runner of a cell to a task.
func reaches(w *depend.Web, cell, task int) bool {
	for range api.MaxTasks {
		runner, runs, _ := w.Runner(cell)
		if !runs {
			return false
		}
		if runner == task {
			return true
		}
		next, waits, _ := w.Waiting(runner)
		if !waits {
			return false
		}
		cell = next
	}
	return false
}

// wantRightAlarm holds what Ask and Wait tell of a task that does not wait and a cell against how the web stands.
func wantRightAlarm(t *testing.T, w *depend.Web, task, cell int) {
	t.Helper()
	circle, e := w.Ask(task, cell)
	if e != api.OK || len(circle) > 0 != reaches(w, cell, task) {
		t.Fatalf("Ask(%d, %d): %v, %v: %s", task, cell, circle, e, wholeOf(w))
	}
	x := w.Clone()
	told, e := x.Wait(task, cell)
	waited, waits, _ := x.Waiting(task)
	_, runs, _ := w.Runner(cell)
	switch {
	case !runs:
		want(t, listText(told, e), "error 4", "Wait for what nobody runs")
	case len(circle) == 0:
		if len(told) > 0 || e != api.OK || !waits || waited != cell {
			t.Fatalf("Wait(%d, %d): %v, %v, %v: %s", task, cell, told, e, waits, wholeOf(w))
		}
	default:
		want(t, listText(told, e), listText(circle, api.ErrCycle), "Wait as Ask")
		stack, _ := w.Stack(task)
		if circle[0] != cell || circle[len(circle)-1] != stack[len(stack)-1] || waits {
			t.Fatalf("Wait(%d, %d): %v: %s", task, cell, circle, wholeOf(w))
		}
		for i := range circle[1:] {
			if !leads(w, circle[i], circle[i+1]) {
				t.Fatalf("Wait(%d, %d): %v at %d: %s", task, cell, circle, i, wholeOf(w))
			}
		}
	}
}

// 14.7: Wait tells a circle just where there is one.
func TestNoFalseAlarm(t *testing.T) {
	for _, at := range allWebs(3, 3) {
		for task := range 3 {
			for cell := range 3 {
				if _, waits, _ := at.w.Waiting(task); !waits {
					wantRightAlarm(t, at.w, task, cell)
				}
			}
		}
	}
	r := rand.New(rand.NewPCG(14, 7))
	for range 100 {
		s := someOf(r)
		w := someWeb(r, s)
		for range 50 {
			task, cell := r.IntN(s.tasks), r.IntN(s.cells)
			if _, waits, _ := w.Waiting(task); !waits {
				wantRightAlarm(t, w, task, cell)
			}
		}
	}
}

// 14.8: End of what was begun last, or Wake of what waited last, leaves what was there.
func TestThereAndBack(t *testing.T) {
	r := rand.New(rand.NewPCG(14, 8))
	for range 60 {
		s := someOf(r)
		w := someWeb(r, s)
		was := wholeOf(w)
		for range 60 {
			task, cell := r.IntN(s.tasks), r.IntN(s.cells)
			if r.IntN(2) == 0 {
				if w.Begin(task, cell) == api.OK {
					want(t, numberText(w.Runner(cell)), numberText(task, true, api.OK), "Runner")
					want(t, endText(w.End(task)), endText(cell, nil, api.OK), "End of what was begun")
				}
			} else if _, e := w.Wait(task, cell); e == api.OK {
				want(t, numberText(w.Waiting(task)), numberText(cell, true, api.OK), "Waiting")
				want(t, okText(w.Wake(task)), "ok", "Wake of what waited")
			}
		}
		want(t, wholeOf(w), was, "the web")
	}
	for _, at := range allWebs(3, 3) {
		was := partOf(at.b, 3, 3)
		for task := range 3 {
			for cell := range 3 {
				x := at.w.Clone()
				if x.Begin(task, cell) == api.OK {
					x.End(task)
				}
				want(t, partOf(x, 3, 3), was, "End of what was begun last")
				if _, e := x.Wait(task, cell); e == api.OK {
					x.Wake(task)
				}
				want(t, partOf(x, 3, 3), was, "Wake of what waited last")
			}
		}
	}
}

// R6: webs that came to the same by other ways tell the same, and go on alike.
func TestSameByOtherWays(t *testing.T) {
	r := rand.New(rand.NewPCG(14, 9))
	for range 60 {
		s := someOf(r)
		w := someWeb(r, s)
		x := depend.New()
		for range 200 { // what comes and goes ahead of it leaves nothing
			task, cell := r.IntN(s.tasks), r.IntN(s.cells)
			x.Begin(task, cell)
			x.Wait((task+1)%s.tasks, cell)
			x.Wake((task + 1) % s.tasks)
			x.End(task)
		}
		for task := range api.MaxTasks { // the last task's stack first
			task = api.MaxTasks - 1 - task
			stack, _ := w.Stack(task)
			for _, cell := range stack {
				x.Begin(task, cell)
			}
		}
		for cell := range api.MaxCells {
			waiters, _ := w.Waiters(cell)
			for _, task := range waiters {
				x.Wait(task, cell)
			}
		}
		want(t, wholeOf(x), wholeOf(w), "the same by another way")
		for range 50 {
			c := s.call(r)
			want(t, c.of(x), c.of(w), c)
		}
		want(t, wholeOf(x), wholeOf(w), "and on")
	}
}
