package machine

import (
	"onceweb/api"
	"onceweb/fail"
	"onceweb/value"
)

// The instructions as api numbers them, counted up.
const (
	opInt = api.CInt + iota
	opText
	opForce
	opLoad
	opKeep
	opLeave
	opMake
	opDo
	opElse
	opJump
	opTry
	opDone
	opFail
	opPanic
	opGate
	opHalt
	opPast
)

// attempt is a CTry that is not over: where a failure goes on, and how many values and locals there were. In a sound code what was there then is there as long as the CTry is not over, with more behind it at most.
type attempt struct {
	to, values, locals int
}

// move does the instruction that comes, or wants what that wants.
func (m *Machine) move() {
	switch in := m.code[m.at]; in.Op {
	case opForce:
		m.state = wantsCell
	case opGate:
		m.state = wantsGate
	default:
		m.done++
		m.do(in)
	}
}

// do does in, and goes on with the next one, or where it says.
func (m *Machine) do(in api.Instr) {
	switch in.Op {
	case opMake:
		m.operate(api.XList, in.A)
	case opDo:
		m.operate(in.A, partsOf(in.A))
	case opElse:
		m.choose(in.A)
	case opJump:
		m.at = in.A
	case opFail:
		m.raise(api.XFail)
	case opPanic:
		m.raise(api.XPanic)
	case opHalt:
		m.end(api.Outcome{Kind: api.OValue, Value: m.take(1)[0]})
	default:
		m.shift(in)
		m.at++
	}
}

// shift does one of those instructions behind which the next one always comes.
func (m *Machine) shift(in api.Instr) {
	switch in.Op {
	case opInt:
		v, _ := value.Int(in.A)
		m.push(v)
	case opText:
		v, _ := value.Text(in.Text)
		m.push(v)
	case opLoad:
		m.push(m.locals[in.A])
	case opKeep:
		m.locals = append(m.locals, m.take(1)[0])
	case opLeave:
		m.locals = m.locals[:in.A]
	case opTry:
		m.tries = append(m.tries, attempt{to: in.A, values: len(m.stack), locals: len(m.locals)})
	case opDone:
		m.tries = m.tries[:len(m.tries)-1]
	case opPast:
		// Where a gate's part ends is of use to code.Check alone.
	}
}

func (m *Machine) push(v api.Value) { m.stack = append(m.stack, v) }

// take takes that many values off the stack. They lie there still, and so are lent till the next push.
func (m *Machine) take(count int) []api.Value {
	rest := len(m.stack) - count
	taken := m.stack[rest:]
	m.stack = m.stack[:rest]
	return taken
}

// takeWhole takes the value on top away: a number and a text are told by their last atom, and that another value is neither.
func (m *Machine) takeWhole() api.Atom {
	v := m.take(1)[0]
	return v[len(v)-1]
}

// partsOf is how many arguments the operation of that kind has, which CDo does.
func partsOf(kind int) int {
	if kind == api.XSize {
		return 1
	}
	return 2
}

// operate takes that many arguments away, and pushes what the operation makes of them.
func (m *Machine) operate(kind, parts int) {
	v, ok, _ := value.Do(kind, m.take(parts))
	if !ok {
		m.unfit(kind)
		return
	}
	m.push(v)
	m.at++
}

// choose goes on with the next instruction, or, if the top is 0, at that place.
func (m *Machine) choose(other int) {
	top := m.takeWhole()
	switch {
	case top.Kind != api.VInt:
		m.unfit(api.XIf)
	case top.Int == 0:
		m.at = other
	default:
		m.at++
	}
}

// raise fails, or panics, with the text on top.
func (m *Machine) raise(kind int) {
	top := m.takeWhole()
	switch {
	case top.Kind != api.VText:
		m.unfit(kind)
	case kind == api.XPanic:
		m.end(api.Outcome{Kind: api.OPanic, Fail: leaf(api.FPanic, top.Text)})
	default:
		m.fails(leaf(api.FRaise, top.Text))
	}
}

// leaf is the failure that is one crack, whose text may stand there.
func leaf(kind int, text string) api.Fail {
	f, _ := fail.Leaf(kind, text)
	return f
}

// unfit is that the values do not fit the operation of that kind.
func (m *Machine) unfit(kind int) { m.fails(leaf(api.FValue, value.Word(kind))) }

// fails goes on where the last CTry that is not over says; without one, it ends.
func (m *Machine) fails(f api.Fail) {
	last := len(m.tries) - 1
	if last < 0 {
		m.end(api.Outcome{Kind: api.OFail, Fail: f})
		return
	}
	t := m.tries[last]
	m.at, m.stack, m.locals, m.tries = t.to, m.stack[:t.values], m.locals[:t.locals], m.tries[:last]
}

// end leaves nothing of the machine but what it can still be asked for.
func (m *Machine) end(o api.Outcome) {
	*m = Machine{at: m.at, done: m.done, state: hasEnded, outcome: o}
}

// meet goes on with the outcome that it was given.
func (m *Machine) meet() {
	o := m.outcome
	m.outcome, m.state = api.Outcome{}, moves
	switch o.Kind {
	case api.OValue:
		m.push(o.Value)
		m.at++
	case api.OFail:
		m.fails(o.Fail)
	case api.OPanic:
		m.end(o)
	}
}
