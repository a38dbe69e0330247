package cell_test

import (
	"math"
	"math/rand/v2"
	"testing"

	"onceweb/api"
	"onceweb/cell"
)

// pair is a cell and what it is held against.
type pair struct {
	c *cell.Cell
	s *tale
}

// both is a new pair; none, if the policy is refused by both.
func both(t *testing.T, again bool, p api.Policy) (pair, bool) {
	t.Helper()
	c, e := cell.New(again, p)
	s, f := newTale(again, p)
	if e != f || (c == nil) != (s == nil) {
		t.Fatalf("New(%v, %v): %v, want %v", again, p, e, f)
	}
	return pair{c, s}, e == api.OK
}

func (p pair) clone() pair { return pair{p.c.Clone(), p.s.clone()} }

// does makes a call of both, and tells whether it went.
func (p pair) does(t *testing.T, c call) bool {
	t.Helper()
	got, e := c.does(p.c)
	want, f := c.does(p.s)
	if got != want || e != f {
		t.Fatalf("%s behind %s: %d, %v; want %d, %v", brief(c), brief(p.s), got, e, want, f)
	}
	return e == api.OK
}

// alike asks both for all that they tell.
func (p pair) alike(t *testing.T, at []int) {
	t.Helper()
	if got, want := p.c.Told(), p.s.Told(); got != want {
		t.Fatalf("Told behind %s: %v, want %v", brief(p.s), got, want)
	}
	o, e := p.c.Outcome()
	if want, f := p.s.Outcome(); e != f || !sameOutcome(o, want) {
		t.Fatalf("Outcome behind %s: %s, %v; want %s, %v", brief(p.s), brief(o), e, brief(want), f)
	}
	for _, at := range at {
		if got, want := p.c.Ask(at), p.s.Ask(at); got != want {
			t.Fatalf("Ask(%d) behind %s: %d, want %d", at, brief(p.s), got, want)
		}
	}
}

// walk goes every way of so many calls, and asks at each place for everything.
func (p pair) walk(t *testing.T, calls int, tasks []int, outcomes []api.Outcome) int {
	t.Helper()
	at := timesOf(p.s)
	p.alike(t, at)
	places := 1
	if calls == 0 {
		return places
	}
	for _, c := range callsAt(at, tasks, outcomes) {
		next := p.clone()
		if next.does(t, c) {
			places += next.walk(t, calls-1, tasks, outcomes)
		} else {
			next.alike(t, at)
		}
	}
	p.alike(t, at)
	return places
}

func TestAllShortTales(t *testing.T) {
	tasks := []int{-1, 0, 3, api.MaxTasks}
	outcomes := []api.Outcome{outcome("1"), outcome("depth"), outcome(`panic "p"`), {}}
	places := 0
	for _, p := range []api.Policy{{}, {Tries: 1, Base: 2, Factor: 1, Cap: 2}, {Tries: 2, Base: 0, Factor: 1, Cap: 0}, {Tries: 3, Base: 2, Factor: 3, Cap: 5}} {
		for _, again := range []bool{false, true} {
			two, _ := both(t, again, p)
			places += two.walk(t, 5, tasks, outcomes)
		}
	}
	if places < 40000 {
		t.Errorf("%d places only", places)
	}
}

// chance picks what tales by chance are made of.
type chance struct{ *rand.Rand }

func (r chance) of(l ...int) int { return l[r.IntN(len(l))] }

// policy is mostly right.
func (r chance) policy() api.Policy {
	base := r.of(0, 1, 5, 1000, 1<<30, r.IntN(1<<30), r.IntN(100), r.IntN(100))
	p := api.Policy{Tries: r.of(1, 2, 3, 64, 1+r.IntN(64), 1+r.IntN(64)), Base: base, Factor: r.of(1, 2, 16, 1+r.IntN(16)), Cap: r.of(base, base+1, base*3, base*16, api.MaxTick, base+r.IntN(10000), max(base, r.IntN(api.MaxTick)))}
	switch r.IntN(20) {
	case 0:
		p = api.Policy{}
	case 1:
		p.Tries = r.of(-1, 0, 65)
	case 2:
		p.Base = r.of(-1, 1<<30+1)
	case 3:
		p.Factor = r.of(-1, 0, 17)
	case 4:
		p.Cap = r.of(-1, base-1, api.MaxTick+1)
	}
	return p
}

// outcome is mostly a failure, and rarely wrong.
func (r chance) outcome(right, wrong []api.Outcome) api.Outcome {
	switch n := r.IntN(16); {
	case n == 0:
		return wrong[r.IntN(len(wrong))]
	case n < 4:
		return right[r.IntN(len(right))]
	}
	return outcome("depth")
}

// call is mostly one that goes.
func (r chance) call(s *tale, right, wrong []api.Outcome) call {
	told := s.Told()
	last, _ := s.lastOf(began, ended, wasReset)
	next := max(last.at, told.Next)
	c := call{task: told.Task, at: r.of(next, next, next+1, next+r.IntN(20), last.at, next-1), out: r.outcome(right, wrong)}
	if r.IntN(20) == 0 {
		c.at = r.of(-1, 0, last.at-1, api.MaxTick, api.MaxTick-100, api.MaxTick+1, math.MinInt, math.MaxInt)
	}
	c.kind = began
	if told.State == api.CRunning {
		c.kind = ended
	}
	if r.IntN(12) == 0 {
		c.kind = r.of(began, ended, wasReset)
	}
	if r.IntN(100) == 0 {
		c.kind = wasClosed
	}
	if c.kind == began || r.IntN(12) == 0 {
		c.task = r.of(-1, 0, 1, api.MaxTasks-1, api.MaxTasks, r.IntN(api.MaxTasks), r.IntN(api.MaxTasks))
	}
	return c
}

func TestTalesByChance(t *testing.T) {
	r := chance{rand.New(rand.NewPCG(11, 1))}
	right, wrong := rightOutcomes(), wrongOutcomes()
	for range 3000 {
		p, ok := both(t, r.IntN(3) > 0, r.policy())
		if !ok {
			continue
		}
		for range 60 {
			p.does(t, r.call(p.s, right, wrong))
			p.alike(t, timesOf(p.s))
			if r.IntN(5) == 0 {
				// The one that is left goes on its own way, and is not seen any more.
				left := p
				p = p.clone()
				left.does(t, r.call(left.s, right, wrong))
				left.alike(t, timesOf(left.s))
			}
		}
	}
}

// 11.6 to 11.8, without a judge: what calls answer is held against each other alone.

// watched is what was seen of a cell.
type watched struct {
	runs     bool
	gen      int // the last one begun
	task     int
	endedAt  int         // the time of the last End
	stays    bool        // it is to stay as it is till Reset or Close
	out      api.Outcome // with this outcome
	outAt    api.CellState
	failures int // of this life
}

// meets asks what follows of a call and its answer.
func (w *watched) meets(t *testing.T, c call, gen int, e api.Errno) {
	t.Helper()
	if e != api.OK {
		return
	}
	switch c.kind {
	case began:
		if w.runs || w.stays || gen != w.gen+1 {
			t.Fatalf("a Begin that may not go: %v, %d", *w, gen)
		}
		w.runs, w.gen, w.task = true, gen, c.task
	case ended:
		if !w.runs || c.task != w.task {
			t.Fatalf("an End that may not go: %v by %d", *w, c.task)
		}
		w.runs, w.endedAt = false, c.at
		if c.out.Kind != api.OValue {
			w.failures++
		}
	default:
		if w.runs {
			t.Fatalf("it was reset, or closed, while it ran: %v", *w)
		}
		w.stays = false
		if c.kind == wasReset {
			w.failures = 0
		}
	}
}

func TestWhatFollows(t *testing.T) {
	r := chance{rand.New(rand.NewPCG(11, 2))}
	right, wrong := rightOutcomes(), wrongOutcomes()
	for range 3000 {
		p, ok := both(t, r.IntN(3) > 0, r.policy())
		if !ok {
			continue
		}
		most := max(1, p.s.p.Tries)
		var w watched
		for range 60 {
			next := r.call(p.s, right, wrong)
			next.does(p.s)
			gen, e := next.does(p.c)
			w.meets(t, next, gen, e)
			told := p.c.Told()
			if told.Gen != w.gen || told.Fails != w.failures || told.Fails > most {
				t.Fatalf("%v: %v", told, w)
			}
			if told.Next != 0 && told.Next < w.endedAt {
				t.Fatalf("%v is due ahead of %d", told, w.endedAt)
			}
			w.looksAt(t, p, told, most)
		}
	}
}

// looksAt asks whether what is to stay does.
func (w *watched) looksAt(t *testing.T, p pair, told api.CellState, most int) {
	t.Helper()
	o, _ := p.c.Outcome()
	if w.stays {
		if told != w.outAt || !sameOutcome(o, w.out) {
			t.Fatalf("it did not stay %v with %s: %v, %s", w.outAt, brief(w.out), told, brief(o))
		}
		for _, at := range []int{0, w.endedAt, w.endedAt + 1, api.MaxTick} {
			if at <= api.MaxTick && p.c.Ask(at) != api.ATell {
				t.Fatalf("%v: Ask(%d): %d", told, at, p.c.Ask(at))
			}
		}
	}
	w.stays = told.State == api.CReady || told.State == api.CFailed && (o.Kind == api.OPanic || told.Fails == most)
	w.out, w.outAt = o, told
}

// TestStays: a ready cell, one that panicked, and one that failed as often as it may stay so, whatever is asked.
func TestStays(t *testing.T) {
	refused := []string{"begin 1 5", "begin 1 1000", "begin 1 " + maxTick, "begin -1 -1", "end 1 5 9", "end 0 1000 depth", "end 1 " + maxTick + " 9", "reset -1", "reset 4", "reset " + tooLate}
	once := api.Policy{Tries: 1, Base: 0, Factor: 1, Cap: 0}
	rows := []struct {
		p     api.Policy
		lines []string
		want  string
	}{
		{thrice, []string{"begin 1 3", "end 1 5 7"}, "ready gen 1 task 0 fails 0 next 0; 7"},
		{api.Policy{}, []string{"begin 1 3", "end 1 5 [7]"}, "ready gen 1 task 0 fails 0 next 0; [7]"},
		{thrice, []string{"begin 1 3", `end 1 5 panic "p"`}, `failed gen 1 task 0 fails 1 next 0; panic "p"`},
		{thrice, []string{"begin 1 0", "end 1 0 depth", "begin 1 10", `end 1 10 panic "p"`}, `failed gen 2 task 0 fails 2 next 0; panic "p"`},
		{thrice, []string{"begin 1 0", "end 1 0 depth", "begin 1 10", "end 1 10 depth", "begin 1 30", "end 1 30 cycle a"}, "failed gen 3 task 0 fails 3 next 0; cycle a"},
		{api.Policy{}, []string{"begin 1 3", "end 1 5 depth"}, "failed gen 1 task 0 fails 1 next 0; depth"},
		{once, []string{"begin 1 3", "end 1 5 depth"}, "failed gen 1 task 0 fails 1 next 0; depth"},
	}
	for _, r := range rows {
		c := newCell(t, true, r.p)
		for _, line := range r.lines {
			answer(c, line)
		}
		for _, line := range append([]string{"told"}, refused...) {
			answer(c, line)
			if got := answer(c, "told") + "; " + answer(c, "outcome"); got != r.want {
				t.Errorf("%q: behind %s: %s, want %s", r.lines, line, got, r.want)
			}
			for _, at := range []string{"0", "5", "1000", maxTick} {
				if got := answer(c, "ask "+at); got != "tell" {
					t.Errorf("%q: behind %s: ask %s: %s", r.lines, line, at, got)
				}
			}
		}
		d := c.Clone()
		wantAnswers(t, c, "reset 50 -> ok", "ask 50 -> run", "outcome -> error 4")
		wantAnswers(t, d, "close -> ok", "ask 50 -> closed")
	}
}

// P1: whatever is given, each call answers.
func TestWhateverIsGiven(t *testing.T) {
	numbers := []int{math.MinInt, -1, 0, 1, api.MaxTasks - 1, api.MaxTasks, api.MaxTick, api.MaxTick + 1, math.MaxInt}
	for _, tries := range numbers {
		for _, base := range numbers {
			for _, factor := range numbers {
				for _, most := range numbers {
					both(t, true, api.Policy{Tries: tries, Base: base, Factor: factor, Cap: most})
				}
			}
		}
	}
	outcomes := append(wrongOutcomes(), outcome("1"))
	for _, story := range stories {
		c := told(t, story)
		for _, at := range numbers {
			c.Ask(at)
			for _, task := range numbers {
				c.Clone().Begin(task, at)
				for _, o := range outcomes {
					c.Clone().End(task, o, at)
				}
			}
			c.Clone().Reset(at)
		}
	}
}
