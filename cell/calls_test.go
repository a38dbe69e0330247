package cell_test

import (
	"math"
	"slices"
	"strconv"
	"strings"
	"testing"

	"onceweb/api"
	"onceweb/cell"
)

// 11.3

func TestBeginRanges(t *testing.T) {
	last := strconv.Itoa(api.MaxTasks - 1)
	wantPlayed(t, []played{
		{false, thrice, []string{"begin -1 0 -> error 1", "begin " + strconv.Itoa(api.MaxTasks) + " 0 -> error 1", "begin " + least + " 0 -> error 1", "begin " + most + " 0 -> error 1", "begin 0 0 -> 1", "told -> running gen 1 task 0 fails 0 next 0"}},
		{false, thrice, []string{"begin " + last + " 0 -> 1", "told -> running gen 1 task " + last + " fails 0 next 0"}},
		{false, thrice, []string{"begin 1 -1 -> error 1", "begin 1 " + least + " -> error 1", "begin 1 " + tooLate + " -> error 1", "begin 1 " + most + " -> error 1", "begin 1 " + maxTick + " -> 1", "end 1 " + maxTick + " 7 -> ok"}},
		// Ahead of the last time told, and at it.
		{false, thrice, []string{"begin 1 4 -> 1", "end 1 6 depth -> ok", "begin 1 5 -> error 1", "begin 1 6 -> error 7", "begin 1 15 -> error 7", "begin 1 16 -> 2"}},
		{true, thrice, []string{"reset 8 -> ok", "begin 1 7 -> error 1", "begin 1 8 -> 1", "end 1 7 1 -> error 1", "end 1 8 1 -> ok"}},
	})
}

func TestBeginInEachState(t *testing.T) {
	twice := api.Policy{Tries: 2, Base: 5, Factor: 2, Cap: 9}
	wantPlayed(t, []played{
		{false, api.Policy{}, []string{"begin 0 0 -> 1", "begin 0 0 -> error 7", "begin 1 9 -> error 7", "end 0 9 1 -> ok", "begin 0 9 -> error 7", "begin 0 " + maxTick + " -> error 7"}},
		{false, twice, []string{"begin 0 0 -> 1", "end 0 3 none a -> ok", "begin 0 7 -> error 7", "begin 0 8 -> 2", "begin 0 99 -> error 7", "end 0 99 none a -> ok", "begin 0 " + maxTick + " -> error 7"}},
		{false, twice, []string{"begin 0 0 -> 1", `end 0 3 panic "" -> ok`, "begin 0 8 -> error 7", "begin 0 " + maxTick + " -> error 7"}},
		{false, twice, []string{"close -> ok", "begin 0 0 -> error 7", "begin 0 " + maxTick + " -> error 7"}},
		{false, twice, []string{"begin 0 0 -> 1", "end 0 3 none a -> ok", "close -> ok", "begin 0 8 -> error 7"}},
		{true, twice, []string{"begin 0 0 -> 1", "end 0 3 1 -> ok", "begin 0 3 -> error 7", "reset 3 -> ok", "begin 0 3 -> 2"}},
	})
}

func TestEnd(t *testing.T) {
	last := strconv.Itoa(api.MaxTasks - 1)
	behind := strconv.Itoa(api.MaxTasks)
	wantPlayed(t, []played{
		{false, thrice, []string{"begin 1 5 -> 1", "end -1 5 1 -> error 1", "end " + behind + " 5 1 -> error 1", "end " + least + " 5 1 -> error 1", "end " + most + " 5 1 -> error 1", "end 0 5 1 -> error 7", "end 2 5 1 -> error 7", "end " + last + " 5 1 -> error 7", "end 1 5 1 -> ok", "told -> ready gen 1 task 0 fails 0 next 0", "outcome -> 1"}},
		{false, thrice, []string{"begin 0 5 -> 1", "end 1 5 1 -> error 7", "end 0 4 1 -> error 1", "end 0 -1 1 -> error 1", "end 0 " + least + " 1 -> error 1", "end 0 " + tooLate + " 1 -> error 1", "end 0 " + most + " 1 -> error 1", "end 0 5 1 -> ok"}},
		{false, thrice, []string{"begin " + last + " 5 -> 1", "end 0 5 1 -> error 7", "end " + last + " " + maxTick + " depth -> ok", "told -> failed gen 1 task 0 fails 1 next " + maxTick, "outcome -> depth"}},
		{false, thrice, []string{"begin 3 5 -> 1", `end 3 7 panic "p" -> ok`, "told -> failed gen 1 task 0 fails 1 next 0", `outcome -> panic "p"`}},
		{false, thrice, []string{"begin 3 5 -> 1", `end 3 7 odd panic "p" -> ok`, "told -> failed gen 1 task 0 fails 1 next 17", `outcome -> odd panic "p"`}},
		// It does not run.
		{false, thrice, []string{"end 0 5 1 -> error 7", "end 1 5 1 -> error 7"}},
		{false, thrice, []string{"begin 3 5 -> 1", "end 3 7 1 -> ok", "end 3 7 1 -> error 7", "end 0 7 1 -> error 7", "end 3 8 depth -> error 7"}},
		{false, thrice, []string{"begin 3 5 -> 1", "end 3 7 depth -> ok", "end 3 7 1 -> error 7", "end 0 17 1 -> error 7", "begin 4 17 -> 2", "end 3 17 1 -> error 7", "end 4 17 1 -> ok"}},
		{false, thrice, []string{"close -> ok", "end 0 5 1 -> error 7"}},
		{true, thrice, []string{"begin 3 5 -> 1", "end 3 7 1 -> ok", "reset 7 -> ok", "end 3 7 1 -> error 7", "end 0 7 1 -> error 7"}},
	})
}

// numbers is a list of n numbers: n + 1 atoms.
func numbers(n int) api.Value {
	return append(slices.Repeat(api.Value{{Kind: api.VInt, Int: 1}}, n), api.Atom{Kind: api.VList, N: n})
}

// nested is a value that is so deep.
func nested(depth int) api.Value {
	v := api.Value{{Kind: api.VInt, Int: 1}}
	for range depth - 1 {
		v = append(v, api.Atom{Kind: api.VList, N: 1})
	}
	return v
}

// wrapped is a failure of n cracks.
func wrapped(n int) api.Fail {
	return append(api.Fail{{Kind: api.FDepth}}, slices.Repeat(api.Fail{{Kind: api.FCell, N: 1, Text: "a"}}, n-1)...)
}

func longText(n int) string { return strings.Repeat("x", n) }

// rightOutcomes are some at the edges.
func rightOutcomes() []api.Outcome {
	value := func(v ...api.Atom) api.Outcome { return api.Outcome{Kind: api.OValue, Value: v} }
	failure := func(f ...api.Crack) api.Outcome { return api.Outcome{Kind: api.OFail, Fail: f} }
	panicked := func(text string) api.Outcome {
		return api.Outcome{Kind: api.OPanic, Fail: api.Fail{{Kind: api.FPanic, Text: text}}}
	}
	beside := value(api.Atom{Kind: api.VList})
	beside.Fail = api.Fail{}
	empty := panicked("p")
	empty.Value = make(api.Value, 0, 8)
	return []api.Outcome{
		value(api.Atom{Kind: api.VInt, Int: api.MaxInt}), value(api.Atom{Kind: api.VInt, Int: -api.MaxInt}), value(api.Atom{Kind: api.VText}), value(api.Atom{Kind: api.VText, Text: longText(api.MaxWord)}), value(numbers(api.MaxAtoms - 1)...), value(nested(api.MaxNest)...), beside,
		failure(api.Crack{Kind: api.FRaise}), failure(api.Crack{Kind: api.FRaise, Text: longText(api.MaxWord)}), failure(wrapped(api.MaxCracks)...), failure(api.Crack{Kind: api.FPanic, Text: "p"}), failure(api.Crack{Kind: api.FClosed}, api.Crack{Kind: api.FPanic, Text: "p"}, api.Crack{Kind: api.FJoin, N: 2}),
		panicked(""), panicked("p"), panicked(longText(api.MaxWord)), empty,
	}
}

// wrongOutcomes are some of each sort.
func wrongOutcomes() []api.Outcome {
	one, no, oh := api.Value{{Kind: api.VInt, Int: 1}}, api.Fail{{Kind: api.FRaise, Text: "no"}}, api.Fail{{Kind: api.FPanic, Text: "oh"}}
	var l []api.Outcome
	// Kinds that are none, with and without something beside.
	for _, kind := range []int{math.MinInt, -1, api.ONone, api.OPanic + 1, 77, math.MaxInt} {
		l = append(l, api.Outcome{Kind: kind}, api.Outcome{Kind: kind, Value: one}, api.Outcome{Kind: kind, Fail: no}, api.Outcome{Kind: kind, Fail: oh})
	}
	// Nothing, or both, or the other one.
	for _, kind := range []int{api.OValue, api.OFail, api.OPanic} {
		l = append(l, api.Outcome{Kind: kind}, api.Outcome{Kind: kind, Value: api.Value{}, Fail: api.Fail{}}, api.Outcome{Kind: kind, Value: one, Fail: no}, api.Outcome{Kind: kind, Value: one, Fail: oh})
	}
	l = append(l, api.Outcome{Kind: api.OValue, Fail: no}, api.Outcome{Kind: api.OFail, Value: one}, api.Outcome{Kind: api.OPanic, Value: one})
	for _, v := range []api.Value{
		{{}}, {{Kind: 4}}, {{Kind: api.VInt, Int: api.MaxInt + 1}}, {{Kind: api.VInt, Int: -api.MaxInt - 1}}, {{Kind: api.VInt, N: 1}}, {{Kind: api.VInt, Text: "x"}}, {{Kind: api.VText, Text: longText(api.MaxWord + 1)}}, {{Kind: api.VList, N: 1}}, {{Kind: api.VList, N: -1}},
		{one[0], one[0]}, numbers(api.MaxAtoms), numbers(api.MaxItems + 1), nested(api.MaxNest + 1),
	} {
		l = append(l, api.Outcome{Kind: api.OValue, Value: v}, api.Outcome{Kind: api.OFail, Value: v, Fail: no}, api.Outcome{Kind: api.OPanic, Value: v, Fail: oh})
	}
	for _, f := range []api.Fail{
		{{}}, {{Kind: 12}}, {{Kind: api.FCell, N: 1, Text: "a"}}, {{Kind: api.FNone, Text: "A"}}, {{Kind: api.FDepth, Text: "x"}}, {{Kind: api.FRaise, Text: longText(api.MaxWord + 1)}}, {{Kind: api.FRaise, N: 1}}, {no[0], no[0]}, wrapped(api.MaxCracks + 1), wrapped(api.MaxItems + 1),
		{{Kind: api.FPanic, Text: longText(api.MaxWord + 1)}}, {{Kind: api.FPanic, N: 1}}, {oh[0], oh[0]}, {no[0], oh[0]},
	} {
		l = append(l, api.Outcome{Kind: api.OFail, Fail: f}, api.Outcome{Kind: api.OPanic, Fail: f}, api.Outcome{Kind: api.OValue, Value: one, Fail: f})
	}
	// A panic's whole is a FPanic: not in it, not around it, nothing else.
	for _, text := range []string{`fail "no"`, "value add", "none a", "cycle a", "depth", "closed", `token "t"`, "long", `cell a: panic "p"`, `token "t": panic "p"`, `join(panic "p")`, `join(panic "p"; panic "p")`} {
		l = append(l, api.Outcome{Kind: api.OPanic, Fail: outcome(text).Fail})
	}
	return l
}

func sameOutcome(a, b api.Outcome) bool {
	return a.Kind == b.Kind && slices.Equal(a.Value, b.Value) && slices.Equal(a.Fail, b.Fail)
}

func TestRightOutcomes(t *testing.T) {
	for _, o := range rightOutcomes() {
		c := newCell(t, false, thrice)
		c.Begin(1, 3)
		if e := c.End(1, o, 4); e != api.OK {
			t.Errorf("%s: %v", brief(o), e)
		}
		want := api.CellState{State: api.CReady, Gen: 1}
		switch o.Kind {
		case api.OFail:
			want = api.CellState{State: api.CFailed, Gen: 1, Fails: 1, Next: 14}
		case api.OPanic:
			want = api.CellState{State: api.CFailed, Gen: 1, Fails: 1}
		}
		if got := c.Told(); got != want {
			t.Errorf("%s: %v, want %v", brief(o), got, want)
		}
		if got, e := c.Outcome(); e != api.OK || !sameOutcome(got, o) {
			t.Errorf("%s: %s, %v", brief(o), brief(got), e)
		}
	}
}

func TestWrongOutcomes(t *testing.T) {
	for _, o := range wrongOutcomes() {
		c := newCell(t, false, thrice)
		c.Begin(1, 3)
		ahead := looked(c, around(3, 4))
		if e := c.End(1, o, 4); e != api.ErrOutcome {
			t.Errorf("%s: %v", brief(o), e)
		}
		if behind := looked(c, around(3, 4)); behind != ahead {
			t.Errorf("%s: it was refused, and changed %s to %s", brief(o), ahead, behind)
		}
		// The order: task, state, outcome, time.
		for _, task := range []int{-1, api.MaxTasks} {
			if e := c.End(task, o, -1); e != api.ErrRange {
				t.Errorf("%s by %d: %v", brief(o), task, e)
			}
		}
		if e := c.End(2, o, -1); e != api.ErrState {
			t.Errorf("%s by another task: %v", brief(o), e)
		}
		for _, at := range []int{-1, 2, api.MaxTick + 1} {
			if e := c.End(1, o, at); e != api.ErrOutcome {
				t.Errorf("%s at %d: %v", brief(o), at, e)
			}
		}
		if e := newCell(t, false, thrice).End(1, o, -1); e != api.ErrState {
			t.Errorf("%s of an idle one: %v", brief(o), e)
		}
	}
}

// TestWhichErrorIsTold: where more than one thing is wrong.
func TestWhichErrorIsTold(t *testing.T) {
	wantPlayed(t, []played{
		{false, thrice, []string{"begin 1 5 -> 1", "begin -1 -1 -> error 1", "begin -1 9 -> error 1", "begin 2 -1 -> error 1", "begin 2 4 -> error 1", "begin 2 " + tooLate + " -> error 1", "begin 2 5 -> error 7"}},
		{false, thrice, []string{"begin 1 5 -> 1", "end -1 -1 1 -> error 1", "end 2 -1 1 -> error 7", "end 2 4 1 -> error 7", "end 2 " + tooLate + " 1 -> error 7", "end 1 4 1 -> error 1"}},
		{false, thrice, []string{"begin 1 5 -> 1", "reset 4 -> error 1", "reset -1 -> error 1", "reset " + tooLate + " -> error 1", "reset 5 -> error 7"}},
		{true, thrice, []string{"begin 1 5 -> 1", "reset 4 -> error 1", "reset 5 -> error 7", "end 1 6 1 -> ok", "close -> ok", "reset 5 -> error 1", "reset 6 -> error 7", "begin 1 5 -> error 1", "begin 1 6 -> error 7", "end 1 5 1 -> error 7"}},
		{false, thrice, []string{"reset -1 -> error 1", "reset " + tooLate + " -> error 1", "reset 0 -> error 7"}},
	})
}

// runsOut is a cell that has had one generation less than there may be, and is idle, all at 9.
func runsOut(t *testing.T, p api.Policy) *cell.Cell {
	t.Helper()
	c := newCell(t, true, p)
	one := outcome("1")
	for want := range cell.MaxRuns - 1 {
		gen, e := c.Begin(2, 9)
		if gen != want+1 || e != api.OK || c.End(2, one, 9) != api.OK || c.Reset(9) != api.OK {
			t.Fatalf("the generation %d: %d, %v", want+1, gen, e)
		}
	}
	return c
}

func TestSpent(t *testing.T) {
	if cell.MaxRuns != 1<<20 {
		t.Fatalf("MaxRuns: %d", cell.MaxRuns)
	}
	c := runsOut(t, thrice)
	full := strconv.Itoa(cell.MaxRuns)
	idle, due := c.Clone(), c.Clone()
	wantAnswers(t, c, "begin 1 9 -> "+full, "begin 1 9 -> error 7", "end 1 10 1 -> ok", "begin 1 10 -> error 7", "told -> ready gen "+full+" task 0 fails 0 next 0", "close -> ok")
	// It is asked behind the state, and changes nothing; a reset does not begin the count anew.
	wantAnswers(t, idle, "begin 1 9 -> "+full, "end 1 10 1 -> ok", "reset 11 -> ok", "told -> idle gen "+full+" task 0 fails 0 next 0", "ask 11 -> run", "begin 1 11 -> error 111", "begin -1 11 -> error 1", "begin 1 10 -> error 1", "begin 1 12 -> error 111", "end 1 12 1 -> error 7", "reset 11 -> ok", "begin 1 11 -> error 111", "told -> idle gen "+full+" task 0 fails 0 next 0", "outcome -> error 4", "close -> ok", "begin 1 11 -> error 7")
	// So it is of one that would be tried again.
	wantAnswers(t, due, "begin 1 9 -> "+full, "end 1 10 depth -> ok", "told -> failed gen "+full+" task 0 fails 1 next 20", "ask 19 -> tell", "begin 1 19 -> error 7", "ask 20 -> run", "begin 1 20 -> error 111", "told -> failed gen "+full+" task 0 fails 1 next 20", "outcome -> depth", "reset 10 -> ok")
}

// wantAnswers asks calls of a cell for their answers.
func wantAnswers(t *testing.T, c celled, lines ...string) {
	t.Helper()
	for i, line := range lines {
		call, want, _ := strings.Cut(line, " -> ")
		if got := answer(c, call); got != want {
			t.Errorf("%q: %s answers %s, want %s", lines[:i], call, got, want)
		}
	}
}

// 11.4

func TestReset(t *testing.T) {
	wantPlayed(t, []played{
		// In each state, of one that may be reset.
		{true, thrice, []string{"reset 4 -> ok", "told -> idle gen 0 task 0 fails 0 next 0", "begin 1 3 -> error 1", "reset 3 -> error 1", "reset 4 -> ok"}},
		{true, thrice, []string{"begin 1 3 -> 1", "reset 3 -> error 7", "reset 9 -> error 7", "end 1 4 1 -> ok", "outcome -> 1", "reset 3 -> error 1", "reset 4 -> ok", "told -> idle gen 1 task 0 fails 0 next 0", "outcome -> error 4", "begin 2 4 -> 2"}},
		{true, thrice, []string{"begin 1 3 -> 1", `end 1 4 panic "p" -> ok`, "reset 5 -> ok", "told -> idle gen 1 task 0 fails 0 next 0", "outcome -> error 4", "begin 2 5 -> 2"}},
		{true, thrice, []string{"close -> ok", "reset 0 -> error 7", "reset 5 -> error 7"}},
		{true, thrice, []string{"begin 1 3 -> 1", "end 1 4 1 -> ok", "close -> ok", "reset 4 -> error 7", "outcome -> 1"}},
		{true, api.Policy{}, []string{"begin 1 3 -> 1", "end 1 4 depth -> ok", "reset 4 -> ok", "begin 1 4 -> 2", "end 1 4 closed -> ok", "told -> failed gen 2 task 0 fails 1 next 0", "outcome -> closed"}},
		// Times.
		{true, thrice, []string{"reset -1 -> error 1", "reset " + least + " -> error 1", "reset " + tooLate + " -> error 1", "reset " + most + " -> error 1", "reset " + maxTick + " -> ok", "reset 0 -> error 1", "begin 1 " + maxTick + " -> 1"}},
		// In each state, of one that may not.
		{false, thrice, []string{"reset 0 -> error 7", "begin 1 3 -> 1", "reset 3 -> error 7", "end 1 4 depth -> ok", "reset 4 -> error 7", "reset 14 -> error 7", "begin 1 14 -> 2", "end 1 14 1 -> ok", "reset 14 -> error 7", "close -> ok", "reset 14 -> error 7"}},
		{false, thrice, []string{"begin 1 3 -> 1", `end 1 4 panic "p" -> ok`, "reset 4 -> error 7"}},
	})
}

// TestNewLife: failures, waits and the outcome begin anew, and the generations go on.
func TestNewLife(t *testing.T) {
	wantPlayed(t, []played{
		{true, thrice, []string{
			"begin 1 0 -> 1", "end 1 0 depth -> ok", "begin 1 10 -> 2", "end 1 10 depth -> ok", "told -> failed gen 2 task 0 fails 2 next 30", "reset 12 -> ok", "told -> idle gen 2 task 0 fails 0 next 0", "outcome -> error 4", "ask 12 -> run",
			"begin 1 12 -> 3", "end 1 12 closed -> ok", "told -> failed gen 3 task 0 fails 1 next 22", "outcome -> closed", "begin 1 22 -> 4", "end 1 22 depth -> ok", "told -> failed gen 4 task 0 fails 2 next 42", "begin 1 42 -> 5", "end 1 42 depth -> ok", "told -> failed gen 5 task 0 fails 3 next 0", "ask " + maxTick + " -> tell",
			"reset 42 -> ok", "begin 1 42 -> 6", "end 1 42 depth -> ok", "told -> failed gen 6 task 0 fails 1 next 52",
		}},
		// An idle one that failed never, and one that is reset twice.
		{true, thrice, []string{"reset 3 -> ok", "reset 3 -> ok", "begin 1 3 -> 1", "end 1 3 depth -> ok", "told -> failed gen 1 task 0 fails 1 next 13", "reset 3 -> ok", "reset 13 -> ok", "told -> idle gen 1 task 0 fails 0 next 0"}},
	})
}

func TestClose(t *testing.T) {
	wantPlayed(t, []played{
		{false, thrice, []string{"close -> ok", "told -> closed gen 0 task 0 fails 0 next 0", "outcome -> error 4", "close -> error 7", "ask 0 -> closed"}},
		{false, thrice, []string{"begin 5 3 -> 1", "close -> error 7", "told -> running gen 1 task 5 fails 0 next 0", "end 5 4 1 -> ok", "close -> ok", "told -> closed gen 1 task 0 fails 0 next 0", "outcome -> 1", "close -> error 7"}},
		{false, thrice, []string{"begin 5 3 -> 1", "end 5 4 depth -> ok", "told -> failed gen 1 task 0 fails 1 next 14", "close -> ok", "told -> closed gen 1 task 0 fails 1 next 0", "outcome -> depth", "ask 14 -> closed", "close -> error 7"}},
		{false, thrice, []string{"begin 5 3 -> 1", `end 5 4 panic "p" -> ok`, "close -> ok", "told -> closed gen 1 task 0 fails 1 next 0", `outcome -> panic "p"`}},
		{false, api.Policy{}, []string{"begin 5 3 -> 1", "end 5 4 depth -> ok", "close -> ok", "told -> closed gen 1 task 0 fails 1 next 0", "outcome -> depth"}},
		{true, thrice, []string{"begin 5 3 -> 1", "end 5 4 1 -> ok", "reset 4 -> ok", "close -> ok", "told -> closed gen 1 task 0 fails 0 next 0", "outcome -> error 4"}},
	})
}

// 11.5

func TestToldAndOutcome(t *testing.T) {
	wantPlayed(t, []played{
		{true, thrice, []string{
			"told -> idle gen 0 task 0 fails 0 next 0", "outcome -> error 4",
			"begin 9 2 -> 1", "told -> running gen 1 task 9 fails 0 next 0", "outcome -> error 4",
			`end 9 4 cell b: fail "no" -> ok`, "told -> failed gen 1 task 0 fails 1 next 14", `outcome -> cell b: fail "no"`,
			// While it runs again, what it came to is over.
			"begin 8 20 -> 2", "told -> running gen 2 task 8 fails 1 next 0", "outcome -> error 4",
			`end 8 21 ["x", 3] -> ok`, "told -> ready gen 2 task 0 fails 1 next 0", `outcome -> ["x", 3]`,
			"reset 22 -> ok", "told -> idle gen 2 task 0 fails 0 next 0", "outcome -> error 4",
			"begin 0 22 -> 3", "told -> running gen 3 task 0 fails 0 next 0", "outcome -> error 4",
			"end 0 22 join(depth; closed) -> ok", "told -> failed gen 3 task 0 fails 1 next 32", "outcome -> join(depth; closed)",
			"begin 0 32 -> 4", `end 0 32 panic "oh" -> ok`, "told -> failed gen 4 task 0 fails 2 next 0", `outcome -> panic "oh"`,
			"close -> ok", "told -> closed gen 4 task 0 fails 2 next 0", `outcome -> panic "oh"`,
		}},
		// A next try at 0 is told as none is; it is one.
		{false, api.Policy{Tries: 2, Base: 0, Factor: 3, Cap: 9}, []string{"begin 1 0 -> 1", "end 1 0 depth -> ok", "told -> failed gen 1 task 0 fails 1 next 0", "ask 0 -> run", "begin 1 0 -> 2", "end 1 0 depth -> ok", "told -> failed gen 2 task 0 fails 2 next 0", "ask 0 -> tell", "ask " + maxTick + " -> tell"}},
	})
}

// TestLastTime: it is that of the last Begin, End or Reset that was not refused; Ask, Close and what is refused tell none.
func TestLastTime(t *testing.T) {
	wantPlayed(t, []played{
		{true, thrice, []string{"ask 50 -> run", "begin -1 50 -> error 1", "end 1 50 1 -> error 7", "begin 1 3 -> 1", "ask 50 -> wait", "begin 1 50 -> error 7", "end 2 50 1 -> error 7", "reset 50 -> error 7", "close -> error 7", "end 1 2 1 -> error 1", "end 1 3 depth -> ok", "ask 50 -> run", "begin 1 4 -> error 7", "reset 2 -> error 1", "reset 3 -> ok"}},
		{true, thrice, []string{"begin 1 3 -> 1", "end 1 8 1 -> ok", "reset 7 -> error 1", "reset 8 -> ok", "begin 1 7 -> error 1", "begin 1 8 -> 2"}},
		{true, thrice, []string{"reset 8 -> ok", "begin 1 7 -> error 1", "reset 7 -> error 1", "begin 1 9 -> 1", "end 1 8 1 -> error 1", "end 1 9 1 -> ok", "close -> ok", "reset 8 -> error 1", "reset 9 -> error 7", "begin 1 8 -> error 1", "begin 1 9 -> error 7"}},
		{false, thrice, []string{"begin 1 " + maxTick + " -> 1", "end 1 0 1 -> error 1", "end 1 " + maxTick + " 1 -> ok"}},
	})
}

// stories are lines that lead to each state.
var stories = [][]string{
	{},
	{"reset 4"},
	{"begin 1 3"},
	{"begin 0 3"},
	{"begin 1 3", `end 1 4 [1, "x"]`},
	{"begin 1 3", "end 1 4 cell a: depth"},
	{"begin 1 3", `end 1 4 panic "p"`},
	{"begin 1 3", "end 1 4 depth", "begin 2 14"},
	{"begin 1 3", "end 1 4 depth", "begin 2 14", "end 2 14 closed"},
	{"begin 1 3", "end 1 4 depth", "begin 2 14", "end 2 14 closed", "begin 1 34", "end 1 35 cycle a"},
	{"begin 1 3", "end 1 4 depth", "begin 2 14", "end 2 14 7"},
	{"begin 1 3", "end 1 4 depth", "reset 5"},
	{"begin 1 3", "end 1 4 7", "reset 5", "begin 1 5"},
	{"close"},
	{"begin 1 3", `end 1 4 [1, "x"]`, "close"},
	{"begin 1 3", "end 1 4 cell a: depth", "close"},
	{"begin 1 3", `end 1 4 panic "p"`, "close"},
	{"begin 1 3", "end 1 4 7", "reset 5", "close"},
}

// follows are what may come of them next.
var follows = []string{"begin 2 5", "begin 2 14", "begin 2 40", "end 1 40 9", "end 0 40 9", `end 1 40 panic "q"`, "end 2 40 cycle b", "reset 40", "close"}

// told is a cell that was told a story.
func told(t *testing.T, lines []string) *cell.Cell {
	t.Helper()
	c := newCell(t, true, thrice)
	for _, line := range lines {
		if got := answer(c, line); strings.HasPrefix(got, "error") {
			t.Fatalf("%q: %s: %s", lines, line, got)
		}
	}
	return c
}

func TestClone(t *testing.T) {
	at := around(3, 4, 5, 14, 24, 34, 35, 40, 50)
	for _, story := range stories {
		for _, line := range follows {
			c := told(t, story)
			d := c.Clone()
			stands := looked(c, at)
			if got := looked(d, at); got != stands {
				t.Errorf("%q: a clone is %s, not %s", story, got, stands)
			}
			first := answer(c, line)
			if got := looked(d, at); got != stands {
				t.Errorf("%q: the clone saw %s: %s, not %s", story, line, got, stands)
			}
			goneOn := looked(c, at)
			if second := answer(d, line); second != first || looked(d, at) != goneOn {
				t.Errorf("%q: by %s the one comes to %s, the other one to %s", story, line, first, second)
			}
			// And the other way about: what the clone is told, the cell does not see.
			c = told(t, story)
			d = c.Clone()
			answer(d, line)
			if got := looked(c, at); got != stands {
				t.Errorf("%q: the cell saw the clone's %s: %s, not %s", story, line, got, stands)
			}
		}
	}
}
