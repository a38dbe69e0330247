package cell_test

import (
	"fmt"
	"math"
	"strconv"
	"strings"
	"testing"

	"onceweb/api"
	"onceweb/cell"
	"onceweb/fail"
	"onceweb/value"
)

// outcome is a value, a failure, or a panic, as these tests write it: its text. What begins with odd is the failure that is a panic's, and is none.
func outcome(s string) api.Outcome {
	if v, e := value.Parse(s); e == api.OK {
		return api.Outcome{Kind: api.OValue, Value: v}
	}
	text, odd := strings.CutPrefix(s, "odd ")
	f, e := fail.Parse(text)
	if e != api.OK {
		panic("no outcome: " + s)
	}
	if f[len(f)-1].Kind == api.FPanic && !odd {
		return api.Outcome{Kind: api.OPanic, Fail: f}
	}
	return api.Outcome{Kind: api.OFail, Fail: f}
}

// outcomeText is o as these tests write it.
func outcomeText(o api.Outcome) string {
	if o.Kind == api.OValue && len(o.Fail) == 0 {
		s, e := value.Print(o.Value)
		return s + errorText(e)
	}
	s, e := fail.Print(o.Fail)
	switch {
	case o.Kind == api.OPanic && len(o.Value) == 0:
		return s + errorText(e)
	case o.Kind == api.OFail && len(o.Value) == 0 && o.Fail[len(o.Fail)-1].Kind == api.FPanic:
		return "odd " + s + errorText(e)
	case o.Kind == api.OFail && len(o.Value) == 0:
		return s + errorText(e)
	}
	return brief(o)
}

// errorText is nothing, if nothing is wrong.
func errorText(e api.Errno) string {
	if e == api.OK {
		return ""
	}
	return e.Error()
}

// brief is the beginning of what v is told as: some outcomes are very long.
func brief(v any) string {
	s := fmt.Sprint(v)
	if len(s) > 200 {
		s = s[:200] + ".."
	}
	return s
}

// celled is what a cell, and what it is held against, can do.
type celled interface {
	Ask(at int) int
	Begin(task, at int) (int, api.Errno)
	End(task int, o api.Outcome, at int) api.Errno
	Reset(at int) api.Errno
	Close() api.Errno
	Told() api.CellState
	Outcome() (api.Outcome, api.Errno)
}

func newCell(t *testing.T, again bool, p api.Policy) *cell.Cell {
	t.Helper()
	c, e := cell.New(again, p)
	if c == nil || e != api.OK {
		t.Fatalf("New(%v, %v): %v", again, p, e)
	}
	return c
}

// times are some that are asked of every cell.
var times = []int{math.MinInt, -1, 0, 1, api.MaxTick - 1, api.MaxTick, api.MaxTick + 1, math.MaxInt}

// around is times, and those one ahead of these, at them, and one behind.
func around(l ...int) []int {
	out := append([]int(nil), times...)
	for _, at := range l {
		out = append(out, at-1, at, at+1)
	}
	return out
}

// looked is all that can be told of c by one call more, at these times: what it tells, and what clones of it answer.
func looked(c *cell.Cell, at []int) string {
	var b strings.Builder
	told := c.Told()
	o, e := c.Outcome()
	fmt.Fprint(&b, told, o.Kind, o.Value, o.Fail, int(e))
	task := told.Task // it may be ended by this one alone
	for _, at := range at {
		d := c.Clone()
		gen, code := d.Begin(5, at)
		fmt.Fprint(&b, ";", at, c.Ask(at), gen, int(code), d.Told())
		d = c.Clone()
		fmt.Fprint(&b, int(d.End(task, outcome("3"), at)), d.Told())
		d = c.Clone()
		fmt.Fprint(&b, int(d.Reset(at)), d.Told())
	}
	d := c.Clone()
	fmt.Fprint(&b, int(d.Close()), d.Told())
	return b.String()
}

var stateWords = [...]string{api.CIdle: "idle", api.CRunning: "running", api.CReady: "ready", api.CFailed: "failed", api.CClosed: "closed"}

var askWords = [...]string{"0", api.ARun: "run", api.AWait: "wait", api.ATell: "tell", api.AClosed: "closed"}

// played are calls of one cell, each with what it answers (a number, a word, ok, an error).
type played struct {
	again bool
	p     api.Policy
	lines []string
}

// wantPlayed asks each row's calls for their answers; and that one that is refused has changed nothing.
func wantPlayed(t *testing.T, rows []played) {
	t.Helper()
	for _, r := range rows {
		at := around(timesIn(r.lines)...)
		c := newCell(t, r.again, r.p)
		for i, line := range r.lines {
			call, want, _ := strings.Cut(line, " -> ")
			ahead := looked(c, at)
			got := answer(c, call)
			if got != want {
				t.Errorf("%v %v %q: %s answers %s, want %s", r.again, r.p, r.lines[:i], call, got, want)
			}
			if behind := looked(c, at); strings.HasPrefix(got, "error") && ahead != behind {
				t.Errorf("%v %v %q: %s was refused, and changed %s to %s", r.again, r.p, r.lines[:i], call, ahead, behind)
			}
		}
	}
}

// timesIn is the numbers that stand in lines.
func timesIn(lines []string) []int {
	var l []int
	for _, line := range lines {
		for _, word := range strings.Fields(line) {
			if n, e := strconv.Atoi(word); e == nil && n > math.MinInt && n < math.MaxInt {
				l = append(l, n)
			}
		}
	}
	return l
}

// answer is what a call comes to that is written so: begin TASK TIME, end TASK TIME OUTCOME, reset TIME, close, ask TIME, told, outcome.
func answer(c celled, call string) string {
	words := strings.SplitN(call, " ", 4)
	number := func(i int) int {
		n, e := strconv.Atoi(words[i])
		if e != nil {
			panic("no number: " + call)
		}
		return n
	}
	switch words[0] {
	case "begin":
		gen, e := c.Begin(number(1), number(2))
		if e != api.OK && gen == 0 {
			return e.Error()
		}
		return strconv.Itoa(gen) + errorText(e)
	case "end":
		return okText(c.End(number(1), outcome(words[3]), number(2)))
	case "reset":
		return okText(c.Reset(number(1)))
	case "close":
		return okText(c.Close())
	case "ask":
		return askWords[c.Ask(number(1))]
	case "told":
		s := c.Told()
		return fmt.Sprintf("%s gen %d task %d fails %d next %d", stateWords[s.State], s.Gen, s.Task, s.Fails, s.Next)
	case "outcome":
		o, e := c.Outcome()
		if e != api.OK {
			return e.Error() + zeroText(o)
		}
		return outcomeText(o)
	}
	panic("no call: " + call)
}

func okText(e api.Errno) string {
	if e == api.OK {
		return "ok"
	}
	return e.Error()
}

// zeroText is nothing of an outcome that is nothing.
func zeroText(o api.Outcome) string {
	if o.Kind == 0 && len(o.Value) == 0 && len(o.Fail) == 0 {
		return ""
	}
	return brief(o)
}

// Numbers as the lines have them.
var (
	maxTick = strconv.Itoa(api.MaxTick)
	tooLate = strconv.Itoa(api.MaxTick + 1)
	least   = strconv.Itoa(math.MinInt)
	most    = strconv.Itoa(math.MaxInt)
)

// thrice is the policy of the chapter's example.
var thrice = api.Policy{Tries: 3, Base: 10, Factor: 2, Cap: 100}

// The chapter's examples.

func TestExamples(t *testing.T) {
	wantPlayed(t, []played{
		{false, api.Policy{}, []string{"begin 1 0 -> 1", "ask 0 -> wait", `end 1 5 fail "no" -> ok`, "ask 100 -> tell", "reset 6 -> error 7"}},
		{true, thrice, []string{
			"begin 1 0 -> 1", `end 1 5 fail "no" -> ok`, "told -> failed gen 1 task 0 fails 1 next 15", "ask 14 -> tell", "ask 15 -> run", "begin 2 15 -> 2", `end 2 15 fail "no" -> ok`, "told -> failed gen 2 task 0 fails 2 next 35",
			"reset 20 -> ok", "told -> idle gen 2 task 0 fails 0 next 0", "begin 1 20 -> 3",
		}},
	})
}

// 11.1

func TestPolicies(t *testing.T) {
	right := []api.Policy{
		{}, {Tries: 1, Base: 0, Factor: 1, Cap: 0}, {Tries: 64, Base: 1 << 30, Factor: 16, Cap: api.MaxTick}, {Tries: 1, Base: 1 << 30, Factor: 1, Cap: 1 << 30}, {Tries: 64, Base: 0, Factor: 16, Cap: api.MaxTick}, {Tries: 2, Base: 5, Factor: 2, Cap: 5}, thrice,
	}
	for _, p := range right {
		for _, again := range []bool{false, true} {
			c := newCell(t, again, p)
			if got := answer(c, "told") + ", " + answer(c, "outcome"); got != "idle gen 0 task 0 fails 0 next 0, error 4" {
				t.Errorf("New(%v, %v): %s", again, p, got)
			}
		}
	}
	wrong := []api.Policy{
		{Tries: 0, Base: 1, Factor: 1, Cap: 1}, {Tries: -1, Base: 1, Factor: 1, Cap: 1}, {Tries: 65, Base: 1, Factor: 1, Cap: 1}, {Tries: math.MinInt, Base: 1, Factor: 1, Cap: 1}, {Tries: math.MaxInt, Base: 1, Factor: 1, Cap: 1},
		{Tries: 1, Base: -1, Factor: 1, Cap: 1}, {Tries: 1, Base: -1, Factor: 1, Cap: -1}, {Tries: 1, Base: 1<<30 + 1, Factor: 1, Cap: api.MaxTick}, {Tries: 1, Base: math.MinInt, Factor: 1, Cap: 1}, {Tries: 1, Base: math.MaxInt, Factor: 1, Cap: math.MaxInt},
		{Tries: 1, Base: 1, Factor: 0, Cap: 1}, {Tries: 1, Base: 1, Factor: -1, Cap: 1}, {Tries: 1, Base: 1, Factor: 17, Cap: 1}, {Tries: 1, Base: 1, Factor: math.MinInt, Cap: 1}, {Tries: 1, Base: 1, Factor: math.MaxInt, Cap: 1},
		{Tries: 1, Base: 1, Factor: 1, Cap: 0}, {Tries: 1, Base: 7, Factor: 1, Cap: 6}, {Tries: 1, Base: 0, Factor: 1, Cap: -1}, {Tries: 1, Base: 1, Factor: 1, Cap: api.MaxTick + 1}, {Tries: 1, Base: 1, Factor: 1, Cap: math.MaxInt}, {Tries: 1, Base: 0, Factor: 1, Cap: math.MinInt},
		// All 0 but for one.
		{Tries: 1}, {Base: 1}, {Factor: 1}, {Cap: 1}, {Base: 1, Cap: 1}, {Tries: 1, Cap: 1}, {Factor: 1, Cap: 1},
	}
	for _, p := range wrong {
		for _, again := range []bool{false, true} {
			if c, e := cell.New(again, p); c != nil || e != api.ErrPolicy {
				t.Errorf("New(%v, %v): %v, %v", again, p, c, e)
			}
		}
	}
}

// 11.2

func TestAskInEachState(t *testing.T) {
	rows := []struct {
		again bool
		p     api.Policy
		lines []string // up to the state
		want  string   // at 0, at 7, at MaxTick
	}{
		{false, api.Policy{}, nil, "run run run"},
		{false, thrice, nil, "run run run"},
		{false, thrice, []string{"begin 1 3 -> 1"}, "wait wait wait"},
		{false, thrice, []string{"begin 1 3 -> 1", "end 1 5 7 -> ok"}, "tell tell tell"},
		{false, thrice, []string{"begin 1 3 -> 1", "end 1 5 closed -> ok"}, "tell tell run"},
		{false, thrice, []string{"begin 1 3 -> 1", `end 1 5 panic "p" -> ok`}, "tell tell tell"},
		{false, thrice, []string{"begin 1 3 -> 1", `end 1 5 odd panic "p" -> ok`}, "tell tell run"},
		{false, api.Policy{}, []string{"begin 1 3 -> 1", "end 1 5 closed -> ok"}, "tell tell tell"},
		{false, api.Policy{Tries: 1, Base: 1, Factor: 1, Cap: 1}, []string{"begin 1 3 -> 1", "end 1 5 closed -> ok"}, "tell tell tell"},
		{false, api.Policy{Tries: 2, Base: 1, Factor: 1, Cap: 1}, []string{"begin 1 3 -> 1", "end 1 5 closed -> ok"}, "tell run run"},
		{false, api.Policy{Tries: 2, Base: 1, Factor: 1, Cap: 1}, []string{"begin 1 3 -> 1", "end 1 5 closed -> ok", "begin 1 6 -> 2"}, "wait wait wait"},
		{false, api.Policy{Tries: 2, Base: 1, Factor: 1, Cap: 1}, []string{"begin 1 3 -> 1", "end 1 5 closed -> ok", "begin 1 6 -> 2", "end 1 6 closed -> ok"}, "tell tell tell"},
		{false, api.Policy{Tries: 2, Base: 1, Factor: 1, Cap: 1}, []string{"begin 1 3 -> 1", "end 1 5 closed -> ok", "begin 1 6 -> 2", "end 1 6 8 -> ok"}, "tell tell tell"},
		{false, thrice, []string{"begin 1 0 -> 1", "end 1 0 closed -> ok", "begin 1 10 -> 2", `end 1 11 panic "p" -> ok`}, "tell tell tell"},
		{true, thrice, []string{"begin 1 3 -> 1", "end 1 5 7 -> ok", "reset 6 -> ok"}, "run run run"},
		{true, thrice, []string{"close -> ok"}, "closed closed closed"},
		{true, thrice, []string{"begin 1 3 -> 1", "end 1 5 7 -> ok", "close -> ok"}, "closed closed closed"},
		{true, thrice, []string{"begin 1 3 -> 1", "end 1 5 closed -> ok", "close -> ok"}, "closed closed closed"},
	}
	for _, r := range rows {
		at0, rest, _ := strings.Cut(r.want, " ")
		at7, late, _ := strings.Cut(rest, " ")
		lines := append(append([]string(nil), r.lines...), "ask -1 -> 0", "ask "+least+" -> 0", "ask "+tooLate+" -> 0", "ask "+most+" -> 0", "ask 0 -> "+at0, "ask 7 -> "+at7, "ask "+maxTick+" -> "+late)
		wantPlayed(t, []played{{r.again, r.p, lines}})
	}
}

// TestAskIsOfTheTimeAlone: a time ahead of the last one told may be asked for, though not begun at.
func TestAskIsOfTheTimeAlone(t *testing.T) {
	wantPlayed(t, []played{
		{true, thrice, []string{"begin 1 3 -> 1", "end 1 5 7 -> ok", "reset 9 -> ok", "ask 0 -> run", "ask 8 -> run", "begin 1 8 -> error 1", "begin 1 9 -> 2"}},
		{true, api.Policy{Tries: 2, Base: 0, Factor: 1, Cap: 0}, []string{"begin 1 3 -> 1", "end 1 5 closed -> ok", "ask 4 -> tell", "ask 5 -> run", "begin 1 4 -> error 1", "begin 1 5 -> 2"}},
	})
}

// failing is the lines by which a cell fails again and again, at once as it is due: the End at the time, and Next.
func failing(ends [][2]int) []string {
	var lines []string
	from := 0
	for i, end := range ends {
		gen, next := strconv.Itoa(i+1), strconv.Itoa(end[1])
		lines = append(lines, fmt.Sprintf("begin 7 %d -> %s", from, gen), fmt.Sprintf("end 7 %d depth -> ok", end[0]), fmt.Sprintf("told -> failed gen %s task 0 fails %s next %s", gen, gen, next))
		if end[1] > end[0] {
			lines = append(lines, fmt.Sprintf("ask %d -> tell", end[1]-1), fmt.Sprintf("begin 7 %d -> error 7", end[1]-1))
		}
		lines = append(lines, "ask "+next+" -> run")
		if end[1] < api.MaxTick {
			lines = append(lines, fmt.Sprintf("ask %d -> run", end[1]+1))
		}
		from = end[1]
	}
	return lines
}

func TestNext(t *testing.T) {
	far := api.MaxTick
	rows := []struct {
		p    api.Policy
		ends [][2]int // ends, each with the time from which on it is due then
	}{
		// Below the cap, at it, above it.
		{api.Policy{Tries: 6, Base: 3, Factor: 2, Cap: 24}, [][2]int{{0, 3}, {4, 10}, {10, 22}, {22, 46}, {50, 74}}},
		{api.Policy{Tries: 6, Base: 3, Factor: 2, Cap: 23}, [][2]int{{0, 3}, {3, 9}, {9, 21}, {21, 44}, {44, 67}}},
		{api.Policy{Tries: 6, Base: 3, Factor: 2, Cap: 25}, [][2]int{{0, 3}, {3, 9}, {9, 21}, {21, 45}, {45, 70}}},
		{api.Policy{Tries: 5, Base: 10, Factor: 3, Cap: 50}, [][2]int{{0, 10}, {10, 40}, {40, 90}, {90, 140}}},
		{api.Policy{Tries: 3, Base: 10, Factor: 2, Cap: 10}, [][2]int{{1, 11}, {12, 22}}},
		// A factor of 1, a base of 0, a cap of 0.
		{api.Policy{Tries: 4, Base: 5, Factor: 1, Cap: 100}, [][2]int{{2, 7}, {9, 14}, {14, 19}}},
		{api.Policy{Tries: 4, Base: 0, Factor: 16, Cap: 100}, [][2]int{{0, 0}, {2, 2}, {2, 2}}},
		{api.Policy{Tries: 4, Base: 0, Factor: 1, Cap: 0}, [][2]int{{2, 2}, {9, 9}, {far, far}}},
		{api.Policy{Tries: 4, Base: 1, Factor: 1, Cap: 1}, [][2]int{{2, 3}, {3, 4}, {9, 10}}},
		// The greatest waits: at MaxTick, and where it would lie behind it.
		{api.Policy{Tries: 4, Base: 1 << 30, Factor: 16, Cap: far}, [][2]int{{0, 1 << 30}, {1 << 30, 17 << 30}, {17 << 30, 273 << 30}}},
		{api.Policy{Tries: 5, Base: 1 << 30, Factor: 16, Cap: far}, [][2]int{{0, 1 << 30}, {1 << 30, 17 << 30}, {17 << 30, 273 << 30}, {273 << 30, far}}},
		{api.Policy{Tries: 9, Base: 1 << 20, Factor: 16, Cap: 1 << 39}, [][2]int{{0, 1 << 20}, {1 << 20, 17 << 20}, {17 << 20, 273 << 20}, {273 << 20, 4369 << 20}, {4369 << 20, 69905 << 20}, {69905 << 20, 69905<<20 + 1<<39}, {69905<<20 + 1<<39, far}, {far, far}}},
		{thrice, [][2]int{{far - 11, far - 1}, {far - 1, far}}},
		{thrice, [][2]int{{far - 10, far}, {far, far}}},
		{thrice, [][2]int{{far - 9, far}}},
		{thrice, [][2]int{{far, far}, {far, far}}},
		{api.Policy{Tries: 2, Base: 1 << 30, Factor: 16, Cap: far}, [][2]int{{far - 1<<30 + 1, far}}},
	}
	for _, r := range rows {
		wantPlayed(t, []played{{false, r.p, failing(r.ends)}, {true, r.p, failing(r.ends)}})
	}
}

// TestWaitsFarAboveTheCap: the last waits of many tries would be beyond all ints.
func TestWaitsFarAboveTheCap(t *testing.T) {
	for _, p := range []api.Policy{{Tries: 64, Base: 1, Factor: 16, Cap: 1000}, {Tries: 64, Base: 1000, Factor: 2, Cap: 1001}, {Tries: 64, Base: 999, Factor: 3, Cap: 1 << 30}} {
		c := newCell(t, false, p)
		at, wait := 0, p.Base
		for k := range p.Tries - 1 {
			c.Begin(0, at)
			if e := c.End(0, outcome("long"), at); e != api.OK {
				t.Fatalf("%v: End: %v", p, e)
			}
			if got := c.Told(); got.Next != at+wait || got.Fails != k+1 || c.Ask(at+wait-1) != api.ATell || c.Ask(at+wait) != api.ARun {
				t.Fatalf("%v at %d: %v, want a wait of %d", p, at, got, wait)
			}
			at += wait
			wait = min(wait*p.Factor, p.Cap)
		}
		c.Begin(0, at)
		c.End(0, outcome("long"), at)
		if got := c.Told(); got != (api.CellState{State: api.CFailed, Gen: 64, Fails: 64}) || c.Ask(api.MaxTick) != api.ATell {
			t.Errorf("%v: behind its last try %v", p, got)
		}
	}
}
