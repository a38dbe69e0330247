package machine_test

import (
	"maps"
	"math/rand"
	"slices"
	"strconv"
	"strings"
	"testing"

	"onceweb/api"
	"onceweb/code"
	"onceweb/machine"
	"onceweb/value"
)

// The chapter again, by other means: where a machine stands is never written into, but made anew; and a CTry remembers the whole stand at which a failure goes on.

type stand struct {
	at, done int
	stack    []api.Value
	locals   map[int]api.Value
	try      *stand // where a failure goes on, with the CTrys ahead of that one; nil: nowhere
	told     api.Event
	given    *api.Outcome
	passed   bool
}

// pushed is s with v on top.
func (s stand) pushed(v api.Value) stand {
	s.stack = append(slices.Clone(s.stack), v)
	return s
}

// popped is s without so many values, and these.
func (s stand) popped(n int) (stand, []api.Value) {
	rest := len(s.stack) - n
	taken := slices.Clone(s.stack[rest:])
	s.stack = slices.Clone(s.stack[:rest])
	return s, taken
}

func (s stand) goingOn(at int) stand {
	s.at = at
	return s
}

func (s stand) ended(o api.Outcome) stand {
	return stand{at: s.at, done: s.done, told: api.Event{Kind: api.EEnded, Outcome: o}}
}

func (s stand) failed(f api.Fail) stand {
	if s.try == nil {
		return s.ended(api.Outcome{Kind: api.OFail, Fail: f})
	}
	t := *s.try
	t.done = s.done
	return t
}

func crack(kind int, text string) api.Fail { return api.Fail{{Kind: kind, Text: text}} }

// met is s behind what it was given, or the gate that it passed.
func (s stand) met() stand {
	o := s.given
	s.given, s.passed = nil, false
	switch {
	case o == nil:
		return s.goingOn(s.at + 1)
	case o.Kind == api.OValue:
		return s.pushed(o.Value).goingOn(s.at + 1)
	case o.Kind == api.OFail:
		return s.failed(o.Fail)
	}
	return s.ended(*o)
}

// step is where s comes to, until it wants something, or has ended.
func (s stand) step(c api.Code) stand {
	if s.given != nil || s.passed {
		s = s.met()
	}
	for s.told.Kind == 0 {
		in := c[s.at]
		switch in.Op {
		case api.CForce:
			s.told = api.Event{Kind: api.EForce, Name: in.Text}
		case api.CGate:
			s.told = api.Event{Kind: api.EGate, Name: in.Text}
		default:
			s.done++
			s = s.does(in)
		}
	}
	return s
}

// gave is s that was given o.
func (s stand) gave(o api.Outcome) stand {
	s.given, s.told = &o, api.Event{}
	s.done++
	return s
}

// through is s that passed its gate.
func (s stand) through() stand {
	s.passed, s.told = true, api.Event{}
	s.done++
	return s
}

// does is s behind in.
func (s stand) does(in api.Instr) stand {
	next := s.goingOn(s.at + 1)
	switch in.Op {
	case api.CInt:
		return next.pushed(api.Value{{Kind: api.VInt, Int: in.A}})
	case api.CText:
		return next.pushed(api.Value{{Kind: api.VText, Text: in.Text}})
	case api.CLoad:
		return next.pushed(s.locals[in.A])
	case api.CKeep:
		kept, taken := next.popped(1)
		kept.locals = maps.Clone(s.locals)
		if kept.locals == nil {
			kept.locals = map[int]api.Value{}
		}
		kept.locals[in.A] = taken[0]
		return kept
	case api.CLeave:
		next.locals = maps.Clone(s.locals)
		delete(next.locals, in.A)
		return next
	case api.CJump:
		return s.goingOn(in.A)
	case api.CTry:
		caught := s.goingOn(in.A)
		next.try = &caught
		return next
	case api.CDone:
		next.try = s.try.try
		return next
	case api.CPast:
		return next
	}
	return s.works(in)
}

// works is the rest of does: what looks at the values that it takes away.
func (s stand) works(in api.Instr) stand {
	takes := 1
	switch {
	case in.Op == api.CMake:
		takes = in.A
	case in.Op == api.CDo && in.A != api.XSize:
		takes = 2
	}
	next, taken := s.goingOn(s.at + 1).popped(takes)
	var top api.Atom
	if takes > 0 {
		top = taken[takes-1][len(taken[takes-1])-1]
	}
	switch {
	case in.Op == api.CHalt:
		return s.ended(valued(taken[0]))
	case in.Op == api.CElse && top.Kind == api.VInt && top.Int == 0:
		return next.goingOn(in.A)
	case in.Op == api.CElse && top.Kind == api.VInt:
		return next
	case in.Op == api.CElse:
		return s.failed(crack(api.FValue, "if"))
	case in.Op == api.CFail && top.Kind == api.VText:
		return s.failed(crack(api.FRaise, top.Text))
	case in.Op == api.CFail:
		return s.failed(crack(api.FValue, "fail"))
	case in.Op == api.CPanic && top.Kind == api.VText:
		return s.ended(api.Outcome{Kind: api.OPanic, Fail: crack(api.FPanic, top.Text)})
	case in.Op == api.CPanic:
		return s.failed(crack(api.FValue, "panic"))
	case in.Op == api.CMake:
		v, e := value.List(taken)
		if e != api.OK {
			return s.failed(crack(api.FValue, "list"))
		}
		return next.pushed(v)
	}
	v, ok, _ := value.Do(in.A, taken)
	if !ok {
		return s.failed(crack(api.FValue, value.Word(in.A)))
	}
	return next.pushed(v)
}

// slowRun is Run of a sound code and a right world.
func slowRun(c api.Code, known []api.Known, open []string) api.Meaning {
	var m api.Meaning
	for s := (stand{}).step(c); ; s = s.step(c) {
		switch s.told.Kind {
		case api.EEnded:
			m.Outcome = s.told.Outcome
			return m
		case api.EGate:
			if !slices.Contains(open, s.told.Name) {
				m.Gate = s.told.Name
				return m
			}
			s = s.through()
		case api.EForce:
			m.Asked = append(m.Asked, s.told.Name)
			out := api.Outcome{Kind: api.OFail, Fail: crack(api.FNone, s.told.Name)}
			for _, k := range known {
				if k.Name == s.told.Name {
					out = k.Outcome
				}
			}
			s = s.gave(out)
		}
	}
}

// heights is how high the stack is ahead of each instruction of c, which is sound; -1 of those that can not be come to.
func heights(c api.Code) []int {
	l := slices.Repeat([]int{-1}, len(c))
	l[0] = 0
	for at, in := range c {
		if l[at] < 0 {
			continue
		}
		behind := l[at]
		switch in.Op {
		case api.CInt, api.CText, api.CForce, api.CLoad:
			behind++
		case api.CKeep, api.CElse:
			behind--
		case api.CMake:
			behind += 1 - in.A
		case api.CDo:
			behind -= map[bool]int{true: 0, false: 1}[in.A == api.XSize]
		}
		if in.Op == api.CElse || in.Op == api.CJump {
			l[in.A] = behind
		}
		if in.Op == api.CTry {
			l[in.A] = l[at]
		}
		if in.Op != api.CJump && in.Op != api.CFail && in.Op != api.CPanic && in.Op != api.CHalt {
			l[at+1] = behind
		}
	}
	return l
}

// wantStand asks whether m stands where the judge does, and whether it did no more than its code has, on a stack as high as is told ahead.
func wantStand(t *testing.T, c api.Code, high []int, m *machine.Machine, s stand) {
	t.Helper()
	stack := m.Stack()
	if m.At() != s.at || m.Done() != s.done || !slices.EqualFunc(stack, s.stack, slices.Equal[api.Value]) {
		t.Fatalf("%v: %s; want @%d #%d %v", c, stands(m), s.at, s.done, s.stack)
	}
	if m.Done() > len(c) || s.told.Kind != api.EEnded && len(stack) != high[m.At()] {
		t.Fatalf("%v: %s, of %d instructions, with a stack of %d", c, stands(m), len(c), high[m.At()])
	}
}

// wantTold asks whether Step tells what the judge does.
func wantTold(t *testing.T, c api.Code, high []int, m *machine.Machine, s stand) {
	t.Helper()
	if e := m.Step(); !sameEvent(e, s.told) {
		t.Fatalf("%v: %s; want %s", c, brief(eventText(e)), brief(eventText(s.told)))
	}
	wantStand(t, c, high, m, s)
}

// everyWay goes all ways from where m and the judge stand, by a clone for each of wayOutcomes; then m must stand where it did. It tells how many ways there are.
func everyWay(t *testing.T, c api.Code, high []int, m *machine.Machine, s stand) int {
	t.Helper()
	wantStand(t, c, high, m, s)
	s = s.step(c)
	wantTold(t, c, high, m, s)
	wantTold(t, c, high, m, s)
	ways := 0
	switch s.told.Kind {
	case api.EEnded:
		ways = 1
		if m.Give(wayOutcomes[0]) != api.ErrState || m.Pass() != api.ErrState {
			t.Fatalf("%v: it has ended, and takes more", c)
		}
	case api.EGate:
		d := m.Clone()
		if m.Give(wayOutcomes[0]) != api.ErrState || d.Pass() != api.OK || d.Pass() != api.ErrState {
			t.Fatalf("%v: at a gate", c)
		}
		ways = everyWay(t, c, high, d, s.through())
	case api.EForce:
		for _, o := range wayOutcomes {
			d := m.Clone()
			if m.Pass() != api.ErrState || m.Give(api.Outcome{}) != api.ErrShape || d.Give(o) != api.OK || d.Give(o) != api.ErrState {
				t.Fatalf("%v: at a cell", c)
			}
			ways += everyWay(t, c, high, d, s.gave(o))
		}
	}
	wantStand(t, c, high, m, s)
	wantTold(t, c, high, m, s)
	return ways
}

// wantEveryWay goes all ways of c, which is sound.
func wantEveryWay(t *testing.T, c api.Code) int {
	t.Helper()
	return everyWay(t, c, heights(c), newOf(t, c), stand{})
}

// onward goes one way from where m and the judge stand to the end, by chance. At each place it asks with which machine to go on.
func onward(t *testing.T, r *rand.Rand, c api.Code, m *machine.Machine, s stand, goOn func(m *machine.Machine, s stand) *machine.Machine) {
	t.Helper()
	for high := heights(c); s.told.Kind != api.EEnded; {
		m = goOn(m, s)
		wantStand(t, c, high, m, s)
		if s.told.Kind == 0 {
			s = s.step(c)
		}
		wantTold(t, c, high, m, s)
		m = goOn(m, s)
		switch s.told.Kind {
		case api.EForce:
			o := wayOutcomes[r.Intn(len(wayOutcomes))]
			s = s.gave(o)
			m.Give(o)
		case api.EGate:
			s = s.through()
			m.Pass()
		}
	}
}

// oneWay goes one way of c, which is sound, now and then by a clone; then those that were left behind go on from there, another way.
func oneWay(t *testing.T, r *rand.Rand, c api.Code) {
	t.Helper()
	type pair struct {
		m *machine.Machine
		s stand
	}
	var left []pair
	onward(t, r, c, newOf(t, c), stand{}, func(m *machine.Machine, s stand) *machine.Machine {
		if r.Intn(4) > 0 || len(left) == 3 {
			return m
		}
		left = append(left, pair{m, s})
		return m.Clone()
	})
	for _, l := range left {
		onward(t, r, c, l.m, l.s, func(m *machine.Machine, _ stand) *machine.Machine { return m })
	}
}

// Expressions and codes for these means to be held against.

// maker makes expressions by chance whose parts mostly fit.
type maker struct {
	r *rand.Rand
}

// sort is what an expression is to come to: a number, a text or a list.
const (
	number = iota
	text
	list
	sorts
)

// local is a name that is bound, and what it mostly comes to.
type local struct {
	name string
	sort int
}

var namesOf = [sorts][]string{number: {"n", "m", "k"}, text: {"t", "u"}, list: {"l", "o"}}

// leaf is an expression of one operation.
func (k maker) leaf(sort int, locals []local) api.Expr {
	var fitting []local
	for _, l := range locals {
		if l.sort == sort {
			fitting = append(fitting, l)
		}
	}
	switch {
	case len(fitting) > 0 && k.r.Intn(2) == 0:
		return api.Expr{{Kind: api.XLocal, Text: fitting[k.r.Intn(len(fitting))].name}}
	case k.r.Intn(2) == 0:
		return api.Expr{{Kind: api.XName, Text: namesOf[sort][k.r.Intn(len(namesOf[sort]))]}}
	case sort == number:
		return api.Expr{{Kind: api.XInt, Int: k.r.Intn(5) - 1}}
	case sort == text:
		return api.Expr{{Kind: api.XText, Text: []string{"", "a", "bc"}[k.r.Intn(3)]}}
	}
	return api.Expr{{Kind: api.XList}}
}

// expr is an expression of at most that depth, where those locals are bound.
func (k maker) expr(deep, sort int, locals []local) api.Expr {
	if k.r.Intn(14) == 0 {
		sort = k.r.Intn(sorts)
	}
	if deep <= 1 || k.r.Intn(8) == 0 {
		return k.leaf(sort, locals)
	}
	whole := func(kind int, text string, parts ...api.Expr) api.Expr {
		return append(slices.Concat(parts...), api.Op{Kind: kind, N: len(parts), Text: text})
	}
	part := func(sort int) api.Expr { return k.expr(deep-1, sort, locals) }
	any := func() api.Expr { return part(k.r.Intn(sorts)) }
	switch k.r.Intn(16) {
	case 0, 1:
		return whole(api.XIf, "", part(number), part(sort), part(sort))
	case 2, 3, 4:
		return whole(api.XTry, "", part(sort), part(sort))
	case 5, 6:
		return whole(api.XGate, []string{"g", "h"}[k.r.Intn(2)], part(sort))
	case 7, 8, 9:
		name, of := []string{"x", "y", "z"}[k.r.Intn(3)], k.r.Intn(sorts)
		inside := append([]local{{name, of}}, slices.DeleteFunc(slices.Clone(locals), func(l local) bool { return l.name == name })...)
		return whole(api.XLet, name, part(of), k.expr(deep-1, sort, inside))
	case 10:
		if k.r.Intn(2) == 0 {
			return whole([]int{api.XFail, api.XFail, api.XPanic}[k.r.Intn(3)], "", part(text))
		}
	case 11:
		return whole(api.XItem, "", whole(api.XList, "", part(sort), part(sort)), part(number))
	}
	switch {
	case sort == text:
		return whole(api.XJoin, "", part(text), part(text))
	case sort == list && k.r.Intn(2) == 0:
		return whole(api.XJoin, "", part(list), part(list))
	case sort == list:
		return whole(api.XList, "", slices.Repeat([]api.Expr{any()}, 1+k.r.Intn(2))...)
	case k.r.Intn(3) == 0:
		return whole(api.XSize, "", part(text+k.r.Intn(2)))
	case k.r.Intn(3) == 0:
		return whole(api.XLess+k.r.Intn(2), "", any(), any())
	}
	return whole(api.XAdd+k.r.Intn(3), "", part(number), part(number))
}

// world is what is known by chance: mostly what fits, of some names nothing; and the gates that are open.
func (k maker) world() ([]api.Known, []string) {
	var known []api.Known
	for sort, names := range namesOf {
		for _, name := range names {
			if k.r.Intn(8) > 0 {
				known = append(known, api.Known{Name: name, Outcome: k.outcome(sort)})
			}
		}
	}
	var open []string
	for _, gate := range []string{"g", "h"} {
		if k.r.Intn(6) > 0 {
			open = append(open, gate)
		}
	}
	return known, open
}

func (k maker) outcome(sort int) api.Outcome {
	if k.r.Intn(4) > 0 {
		return outcome([sorts][]string{number: {"0", "1", "-3", "2"}, text: {`""`, `"a"`, `"bcd"`}, list: {"[]", "[1]", `["a", [2, 3]]`}}[sort][k.r.Intn(3)])
	}
	return wayOutcomes[k.r.Intn(len(wayOutcomes))]
}

// wayOutcomes is enough for whatever an instruction asks of a value, and for each way that an outcome goes.
var wayOutcomes = []api.Outcome{outcome("0"), outcome("3"), outcome(`"x"`), outcome(`[4, "y"]`), outcome(`cell c: fail "f"`), outcome(`panic "p"`)}

// chances calls f with codes of expressions by chance; the seed is fixed, so that each run is the same.
func chances(n int, f func(k maker, x api.Expr, c api.Code)) {
	k := maker{rand.New(rand.NewSource(10))}
	for range n {
		x := k.expr(1+k.r.Intn(7), k.r.Intn(sorts), nil)
		if len(x) <= api.MaxOps {
			f(k, x, compile(x))
		}
	}
}

// another is an instruction by chance that may stand at a place of a code of that size, or almost.
func (k maker) another(size int) api.Instr {
	in := api.Instr{Op: api.CInt + k.r.Intn(api.CPast)}
	switch in.Op {
	case api.CText, api.CForce, api.CGate:
		in.Text = []string{"n", "t", "g"}[k.r.Intn(3)]
	case api.CInt, api.CLoad, api.CKeep, api.CLeave, api.CMake:
		in.A = k.r.Intn(3)
	case api.CDo:
		in.A = api.XAdd + k.r.Intn(8)
	case api.CElse, api.CJump, api.CTry:
		in.A = k.r.Intn(size + 1)
	}
	return in
}

// changed is c with something changed by chance: instructions put in, taken for others, turned about, or jumps turned.
func (k maker) changed(c api.Code) api.Code {
	c = slices.Clone(c)
	for range 1 + k.r.Intn(2) {
		at := k.r.Intn(len(c))
		switch k.r.Intn(4) {
		case 0:
			c[at] = k.another(len(c))
		case 1:
			c = slices.Insert(c, at, k.another(len(c)))
			for i := range c {
				if in := &c[i]; (in.Op == api.CElse || in.Op == api.CJump || in.Op == api.CTry) && in.A > at {
					in.A++
				}
			}
		case 2:
			if at > 0 {
				c[at], c[at-1] = c[at-1], c[at]
			}
		case 3:
			for i := range c {
				in := &c[(at+i)%len(c)]
				if in.Op == api.CElse || in.Op == api.CJump || in.Op == api.CTry {
					in.A += k.r.Intn(5) - 2
					break
				}
			}
		}
	}
	return c
}

// eachChanged calls f with sound codes that no expression is compiled to, made of codes that were changed a little.
func eachChanged(n int, f func(k maker, c api.Code)) {
	chances(n, func(k maker, _ api.Expr, c api.Code) {
		for range 25 {
			c := k.changed(c)
			if _, e := code.Decompile(c); e == api.ErrNone {
				f(k, c)
			}
		}
	})
}

// smallCodes calls f with each sound code of that size, of those lines and of all jumps to places behind their own. The code is lent for the time of the call alone.
func smallCodes(lines string, size int, f func(c api.Code)) {
	c := make(api.Code, size)
	c[size-1] = halt
	var may api.Code
	for _, line := range strings.Fields(lines) {
		may = append(may, instrOf(strings.Replace(line, "_", " ", 1)))
	}
	var walk func(at int)
	walk = func(at int) {
		if at == size-1 {
			if code.Check(c) == api.OK {
				f(c)
			}
			return
		}
		for _, in := range may {
			c[at] = in
			walk(at + 1)
		}
		for _, op := range []int{api.CElse, api.CJump, api.CTry} {
			for to := at + 1; to < size; to++ {
				c[at] = instr(op, to)
				walk(at + 1)
			}
		}
	}
	walk(0)
}

var opWords = strings.Fields("int text force load keep leave make do else jump try done fail panic gate halt past")

// instrOf is the instruction whose line that is, of those that small codes have.
func instrOf(line string) api.Instr {
	word, tail, _ := strings.Cut(line, " ")
	op := api.CInt + slices.Index(opWords, word)
	if op == api.CDo {
		return instr(op, api.XAdd+slices.Index(strings.Fields("add sub mul join item size less same"), tail))
	}
	if n, err := strconv.Atoi(tail); err == nil {
		return instr(op, n)
	}
	return instr(op, tail)
}

// TestTheJudge asks the means of these tests for what the chapter's examples say.
func TestTheJudge(t *testing.T) {
	c := codeFor("try a else 7")
	s := (stand{}).step(c)
	if eventText(s.told) != "cell a" || s.done != 1 {
		t.Errorf("%v", s)
	}
	if s = s.gave(outcome(`fail "x"`)).step(c); eventText(s.told) != "ended 7" || s.done != 4 {
		t.Errorf("%v", s)
	}
	if m := slowRun(codeFor("wait g . a + 1"), knownAs(`a "t"`), []string{"g"}); outcomeText(m.Outcome) != "value add" || !slices.Equal(m.Asked, []string{"a"}) {
		t.Errorf("%v", m)
	}
	if h := heights(codeOf("force a; else 4; int 1; jump 5; int 2; halt")); !slices.Equal(h, []int{0, 1, 0, 1, 0, 1}) {
		t.Errorf("%v", h)
	}
}
