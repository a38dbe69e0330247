package code

import (
	"slices"

	"onceweb/api"
)

// isFormed tells whether all instructions of c are well formed, and the last one alone is a CHalt.
func isFormed(c api.Code) bool {
	for at, in := range c {
		if !isInstr(in, at, len(c)) || (in.Op == opHalt) != (at == len(c)-1) {
			return false
		}
	}
	return len(c) > 0
}

// pending is a CTry, a CKeep or a CGate that is not over.
type pending struct {
	op     int
	to     int // of a CTry: where it goes
	height int // of a CTry and a CGate: how high the stack was
}

// state is what holds at a place, wherever it is come to from.
type state struct {
	height int       // of the stack
	open   []pending // what is not over; places share the list, so that nothing is ever written into it
}

// keeps is how many CKeeps are not over.
func (s state) keeps() int {
	n := 0
	for _, p := range s.open {
		if p.op == opKeep {
			n++
		}
	}
	return n
}

// floor is how much of the stack may not be taken away.
func (s state) floor() int {
	for _, p := range slices.Backward(s.open) {
		if p.op != opKeep {
			return p.height
		}
	}
	return 0
}

// begin is s with p at the end of what is not over.
func (s state) begin(p pending) state {
	s.open = append(slices.Clip(s.open), p)
	return s
}

// end is s without the last of what is not over, which is told too: its op is 0, if there is none.
func (s state) end() (state, pending) {
	last := len(s.open) - 1
	if last < 0 {
		return s, pending{}
	}
	p := s.open[last]
	s.open = s.open[:last]
	return s, p
}

// behind is the state behind in, which is well formed; false, if in may not be met in the state s.
func (s state) behind(in api.Instr) (state, bool) {
	takes, gives := effect(in)
	if s.height-takes < s.floor() {
		return state{}, false
	}
	s.height += gives - takes
	switch in.Op {
	case opLoad:
		return s, in.A < s.keeps()
	case opKeep:
		return s.begin(pending{op: opKeep}), in.A == s.keeps()
	case opLeave:
		rest, p := s.end()
		return rest, p.op == opKeep && in.A == rest.keeps()
	case opTry:
		return s.begin(pending{op: opTry, to: in.A, height: s.height}), true
	case opGate:
		return s.begin(pending{op: opGate, height: s.height}), true
	case opDone:
		rest, p := s.end()
		return rest, p.op == opTry && s.height == p.height+1
	case opPast:
		rest, p := s.end()
		return rest, p.op == opGate && s.height == p.height+1
	case opHalt:
		return s, s.height == 1 && len(s.open) == 0
	}
	return s, true
}

// walk goes over a code whose instructions are well formed. Since they all lead to places behind them, each is gone over once, with all that lead to it gone over already.
type walk struct {
	code   api.Code
	come   []bool // which places can be come to
	states []state
}

// isSteady tells whether each place of c that can be come to has one state, in which its instruction may be met.
func isSteady(c api.Code) bool {
	w := walk{code: c, come: make([]bool, len(c)), states: make([]state, len(c))}
	w.comeTo(0, state{})
	for at := range c {
		if w.come[at] && !w.step(at) {
			return false
		}
	}
	return true
}

// comeTo tells whether that place has no other state than s.
func (w *walk) comeTo(place int, s state) bool {
	if !w.come[place] {
		w.come[place], w.states[place] = true, s
		return true
	}
	known := w.states[place]
	return known.height == s.height && slices.Equal(known.open, s.open)
}

// step goes on from a place that can be come to, wherever its instruction leads.
func (w *walk) step(at int) bool {
	in, ahead := w.code[at], w.states[at]
	s, ok := ahead.behind(in)
	if !ok {
		return false
	}
	switch in.Op {
	case opFail, opPanic, opHalt:
		return true
	case opJump:
		return w.comeTo(in.A, s)
	case opElse:
		return w.comeTo(in.A, s) && w.comeTo(at+1, s)
	case opTry:
		return w.comeTo(in.A, ahead) && w.comeTo(at+1, s)
	}
	return w.comeTo(at+1, s)
}
