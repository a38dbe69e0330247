package cell_test

import (
	"math"
	"math/big"
	"slices"

	"onceweb/api"
	"onceweb/cell"
	"onceweb/eval"
	"onceweb/names"
)

// Kinds of what a tale has.
const (
	began = iota
	ended
	wasReset
	wasClosed
)

// event is a call that was not refused.
type event struct {
	kind, task, at int
	out            api.Outcome
}

// tale is a cell as the calls that were not refused: all that is asked of it is read out of these, by the chapter's words.
type tale struct {
	again  bool
	p      api.Policy
	events []event
}

// newTale asks names whether the policy is right.
func newTale(again bool, p api.Policy) (*tale, api.Errno) {
	if e := names.CheckProvider(api.Provider{Name: "a", Expr: api.Expr{{Kind: api.XInt}}, Policy: p}); e != api.OK {
		return nil, e
	}
	return &tale{again: again, p: p}, api.OK
}

func (s *tale) clone() *tale { return &tale{s.again, s.p, slices.Clone(s.events)} }

func (s *tale) add(e event) { s.events = append(s.events, e) }

// lastOf is the last event of one of the kinds.
func (s *tale) lastOf(kinds ...int) (event, bool) {
	for _, e := range slices.Backward(s.events) {
		if slices.Contains(kinds, e.kind) {
			return e, true
		}
	}
	return event{}, false
}

func (s *tale) state() int {
	last, any := s.lastOf(began, ended, wasReset, wasClosed)
	switch {
	case !any || last.kind == wasReset:
		return api.CIdle
	case last.kind == wasClosed:
		return api.CClosed
	case last.kind == began:
		return api.CRunning
	case last.out.Kind == api.OValue:
		return api.CReady
	}
	return api.CFailed
}

// fails counts the failures behind the last reset.
func (s *tale) fails() int {
	n := 0
	for _, e := range s.events {
		switch {
		case e.kind == wasReset:
			n = 0
		case e.kind == ended && e.out.Kind != api.OValue:
			n++
		}
	}
	return n
}

func (s *tale) gens() int {
	n := 0
	for _, e := range s.events {
		if e.kind == began {
			n++
		}
	}
	return n
}

// next is from when on it is due, if it ever is.
func (s *tale) next() (int, bool) {
	last, _ := s.lastOf(ended)
	fails := s.fails()
	if s.state() != api.CFailed || last.out.Kind == api.OPanic || fails >= s.p.Tries {
		return 0, false
	}
	wait := new(big.Int).Exp(big.NewInt(int64(s.p.Factor)), big.NewInt(int64(fails-1)), nil)
	wait.Mul(wait, big.NewInt(int64(s.p.Base)))
	if most := big.NewInt(int64(s.p.Cap)); wait.Cmp(most) > 0 {
		wait = most
	}
	at := wait.Add(wait, big.NewInt(int64(last.at)))
	if most := big.NewInt(api.MaxTick); at.Cmp(most) > 0 {
		at = most
	}
	return int(at.Int64()), true
}

func (s *tale) Ask(at int) int {
	if at < 0 || at > api.MaxTick {
		return 0
	}
	next, ever := s.next()
	switch state := s.state(); {
	case state == api.CIdle, ever && at >= next:
		return api.ARun
	case state == api.CRunning:
		return api.AWait
	case state == api.CClosed:
		return api.AClosed
	}
	return api.ATell
}

func (s *tale) rangeOfTask(task int) api.Errno {
	if task < 0 || task >= api.MaxTasks {
		return api.ErrRange
	}
	return api.OK
}

func (s *tale) rangeOfTime(at int) api.Errno {
	if last, any := s.lastOf(began, ended, wasReset); at < 0 || at > api.MaxTick || any && at < last.at {
		return api.ErrRange
	}
	return api.OK
}

// when is e, if it holds.
func when(holds bool, e api.Errno) api.Errno {
	if holds {
		return e
	}
	return api.OK
}

// firstOf is the first of what is wrong.
func firstOf(l ...api.Errno) api.Errno {
	for _, e := range l {
		if e != api.OK {
			return e
		}
	}
	return api.OK
}

func (s *tale) Begin(task, at int) (int, api.Errno) {
	e := firstOf(s.rangeOfTask(task), s.rangeOfTime(at), when(s.Ask(at) != api.ARun, api.ErrState), when(s.gens() >= cell.MaxRuns, api.ErrSpent))
	if e != api.OK {
		return 0, e
	}
	s.add(event{kind: began, task: task, at: at})
	return s.gens(), api.OK
}

func (s *tale) runsFor(task int) bool {
	last, _ := s.lastOf(began)
	return s.state() == api.CRunning && last.task == task
}

// isRight asks eval whether something may be known to come to o.
func isRight(o api.Outcome) bool {
	_, e := eval.Eval(api.Expr{{Kind: api.XInt}}, []api.Known{{Name: "a", Outcome: o}}, nil)
	return e == api.OK
}

func (s *tale) End(task int, o api.Outcome, at int) api.Errno {
	e := firstOf(s.rangeOfTask(task), when(!s.runsFor(task), api.ErrState), when(!isRight(o), api.ErrOutcome), s.rangeOfTime(at))
	if e == api.OK {
		s.add(event{kind: ended, task: task, at: at, out: o})
	}
	return e
}

func (s *tale) Reset(at int) api.Errno {
	state := s.state()
	e := firstOf(s.rangeOfTime(at), when(state == api.CRunning || state == api.CClosed || !s.again, api.ErrState))
	if e == api.OK {
		s.add(event{kind: wasReset, at: at})
	}
	return e
}

func (s *tale) Close() api.Errno {
	state := s.state()
	if state == api.CRunning || state == api.CClosed {
		return api.ErrState
	}
	s.add(event{kind: wasClosed})
	return api.OK
}

func (s *tale) Told() api.CellState {
	told := api.CellState{State: s.state(), Gen: s.gens(), Fails: s.fails()}
	if last, _ := s.lastOf(began); told.State == api.CRunning {
		told.Task = last.task
	}
	told.Next, _ = s.next()
	return told
}

func (s *tale) Outcome() (api.Outcome, api.Errno) {
	if last, any := s.lastOf(began, ended, wasReset); any && last.kind == ended {
		return last.out, api.OK
	}
	return api.Outcome{}, api.ErrNone
}

// call is one call with its arguments.
type call struct {
	kind, task, at int
	out            api.Outcome
}

// does is what x answers it: an error, and of a Begin the generation.
func (c call) does(x celled) (int, api.Errno) {
	switch c.kind {
	case began:
		return x.Begin(c.task, c.at)
	case ended:
		return 0, x.End(c.task, c.out, c.at)
	case wasReset:
		return 0, x.Reset(c.at)
	}
	return 0, x.Close()
}

// callsAt is all calls at some times, by some tasks, with some outcomes.
func callsAt(at, tasks []int, outcomes []api.Outcome) []call {
	l := []call{{kind: wasClosed}}
	for _, at := range at {
		l = append(l, call{kind: wasReset, at: at})
		for _, task := range tasks {
			l = append(l, call{kind: began, task: task, at: at})
			for _, o := range outcomes {
				l = append(l, call{kind: ended, task: task, at: at, out: o})
			}
		}
	}
	return l
}

// timesOf is the times at which something may change of a cell that stands so.
func timesOf(s *tale) []int {
	last, _ := s.lastOf(began, ended, wasReset)
	l := []int{-1, 0, last.at - 1, last.at, last.at + 1, api.MaxTick, api.MaxTick + 1, math.MinInt, math.MaxInt}
	if next, ever := s.next(); ever {
		l = append(l, next-1, next, next+1)
	}
	slices.Sort(l)
	return slices.Compact(l)
}
