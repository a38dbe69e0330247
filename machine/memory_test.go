package machine_test

import (
	"slices"
	"testing"

	"onceweb/api"
	"onceweb/machine"
)

// R3: nothing that is handed in is changed or kept, and what is answered is new memory, spare room too.

// roomy is l with room behind it that has members of its own, which nobody is to write over.
func roomy[T any](l []T, fill T) []T {
	r := append(slices.Clone(l), fill, fill, fill)
	return r[: len(l) : len(l)+3]
}

// scribble writes over all of l, its spare room too.
func scribble[T any](l []T, by T) {
	l = l[:cap(l)]
	for i := range l {
		l[i] = by
	}
}

// sameRoom tells whether two lists are the same, as far as there is room.
func sameRoom[T comparable](a, b []T) bool { return slices.Equal(a[:cap(a)], b[:cap(b)]) }

var (
	oddAtom  = api.Atom{Kind: 77, N: 77, Int: 77, Text: "odd"}
	oddCrack = api.Crack{Kind: 77, N: 77, Text: "odd"}
	oddInstr = api.Instr{Op: 77, A: 77, Text: "odd"}
)

func roomyOutcome(o api.Outcome) api.Outcome {
	return api.Outcome{Kind: o.Kind, Value: roomy(o.Value, oddAtom), Fail: roomy(o.Fail, oddCrack)}
}

func sameRoomy(a, b api.Outcome) bool {
	return a.Kind == b.Kind && sameRoom(a.Value, b.Value) && sameRoom(a.Fail, b.Fail)
}

func scribbleOutcome(o api.Outcome) {
	scribble(o.Value, oddAtom)
	scribble(o.Fail, oddCrack)
}

func scribbleStack(l []api.Value) {
	for _, v := range l {
		scribble(v, oddAtom)
	}
	scribble(l, api.Value{oddAtom})
}

// memories is expressions whose values lie in more than one place: on the stack, in locals, in what is given and in what they come to.
var memories = []string{
	"1", "[]", `[1, "x"]`, "a", "[a]", "[a, b, a]", "a & b", "item([a, b], 0)", "let $x = a in [$x, $x, b]", "let $x = a in [b, $x]", "let $x = a in wait g . $x", "[a, wait g . b]", "try a else b", "try [a, fail(b)] else [b]", "let $x = a in try [$x, b] else $x",
	"if a then b else [a]", "fail(a)", "panic(a)", "let $x = a in let $y = $x in [$x, $y, wait g . $x]", "let $x = [a, 1] in item([$x, $x, b], 1)",
}

// gifts is what memories are given.
var gifts = []string{"0", `"t"`, `[7, "a", [8]]`, "[]", `cell c: join(fail "f"; depth)`, `panic "p"`}

// wild takes a machine of c to its end, writing over all that it handed in, and over all that it was told; calm does not. Both tell all that they met.
func wild(t *testing.T, c api.Code, gift string) []string { return roam(t, c, gift, true) }

func calm(t *testing.T, c api.Code, gift string) []string { return roam(t, c, gift, false) }

func roam(t *testing.T, c api.Code, gift string, scribbles bool) []string {
	t.Helper()
	handed := roomy(c, oddInstr)
	m := newOf(t, handed)
	if !sameRoom(handed, roomy(c, oddInstr)) {
		t.Errorf("%v: New changed it", c)
	}
	if scribbles {
		scribble(handed, oddInstr)
	}
	var told []string
	look := func() {
		told = append(told, stands(m))
		if scribbles {
			scribbleStack(m.Stack())
			scribbleStack(m.Clone().Stack())
		}
	}
	for {
		look()
		e := m.Step()
		told = append(told, eventText(e))
		if scribbles {
			scribbleOutcome(e.Outcome)
			scribbleOutcome(m.Clone().Step().Outcome)
			told[len(told)-1] = eventText(m.Step())
		}
		look()
		switch e.Kind {
		case api.EEnded:
			return told
		case api.EGate:
			m.Pass()
		case api.EForce:
			o := roomyOutcome(outcome(gift))
			m.Give(o)
			if !sameRoomy(o, roomyOutcome(outcome(gift))) {
				t.Errorf("%v: Give changed %s", c, gift)
			}
			if scribbles {
				scribbleOutcome(o)
			}
		}
	}
}

func TestMachinesShareNothing(t *testing.T) {
	for _, s := range memories {
		for _, gift := range gifts {
			want := calm(t, codeFor(s), gift)
			if got := wild(t, codeFor(s), gift); !slices.Equal(got, want) {
				t.Errorf("%s, given %s: %v; want %v", s, gift, got, want)
			}
		}
	}
}

// TestListsOfOneAnswer: no two of a stack's values lie in one place, nor does what comes of a list that has one value twice.
func TestListsOfOneAnswer(t *testing.T) {
	m := newOf(t, codeFor("let $x = a in [$x, $x, wait g . [$x, b]]"))
	m.Step()
	m.Give(outcome("[1, 2]"))
	m.Step()
	for at := range 2 {
		l := m.Stack()
		scribble(l[at], oddAtom)
		if other := l[1-at]; outcomeText(valued(other)) != "[1, 2]" {
			t.Errorf("two values lie in one place: %v", l)
		}
	}
	m.Pass()
	m.Step()
	m.Give(outcome("3"))
	first, second := m.Step(), m.Step()
	scribbleOutcome(first.Outcome)
	if eventText(second) != "ended [[1, 2], [1, 2], [[1, 2], 3]]" || eventText(m.Step()) != eventText(second) {
		t.Errorf("%v", second)
	}
}

// TestEndsShareNothing: what the one has ended with does not lie where the other one has it, or where it was given.
func TestEndsShareNothing(t *testing.T) {
	for _, gift := range gifts {
		m := newOf(t, codeFor("a"))
		m.Step()
		m.Give(outcome(gift))
		ahead := m.Clone()
		first := m.Step()
		behind := m.Clone()
		scribbleOutcome(first.Outcome)
		for _, other := range []*machine.Machine{ahead, behind, m} {
			e := other.Step()
			if !sameOutcome(e.Outcome, outcome(gift)) {
				t.Errorf("given %s: %v", gift, e)
			}
			scribbleOutcome(e.Outcome)
		}
	}
}

// handed is arguments of Run with room behind every list.
type handed struct {
	c     api.Code
	known []api.Known
	open  []string
}

func hand(c api.Code, gift string) handed {
	var known []api.Known
	for _, name := range []string{"a", "b"} {
		known = append(known, api.Known{Name: name, Outcome: roomyOutcome(outcome(gift))})
	}
	return handed{c: roomy(c, oddInstr), known: roomy(known, api.Known{Name: "odd"}), open: roomy([]string{"g"}, "odd")}
}

func sameHanded(a, b handed) bool {
	sameKnown := func(k, l api.Known) bool { return k.Name == l.Name && sameRoomy(k.Outcome, l.Outcome) }
	return sameRoom(a.c, b.c) && slices.EqualFunc(a.known[:cap(a.known)], b.known[:cap(b.known)], sameKnown) && sameRoom(a.open, b.open)
}

func (h handed) scribble() {
	for _, k := range h.known {
		scribbleOutcome(k.Outcome)
	}
	scribble(h.c, oddInstr)
	scribble(h.known, api.Known{Name: "odd"})
	scribble(h.open, "odd")
}

func cloneMeaning(m api.Meaning) api.Meaning {
	m.Outcome.Value, m.Outcome.Fail, m.Asked = slices.Clone(m.Outcome.Value), slices.Clone(m.Outcome.Fail), slices.Clone(m.Asked)
	return m
}

func TestRunSharesNothing(t *testing.T) {
	for _, s := range memories {
		for _, gift := range gifts {
			h, want := hand(codeFor(s), gift), hand(codeFor(s), gift)
			first, _ := machine.Run(h.c, h.known, h.open)
			kept := cloneMeaning(first)
			second, _ := machine.Run(h.c, h.known, h.open)
			scribbleOutcome(second.Outcome)
			scribble(second.Asked, "odd")
			if !sameMeaning(first, kept) {
				t.Errorf("%s: one answer lies where another one does", s)
			}
			if !sameHanded(h, want) {
				t.Errorf("%s: the arguments were changed, or an answer lies there", s)
			}
			if third, _ := machine.Run(h.c, h.known, h.open); !sameMeaning(third, kept) {
				t.Errorf("%s: a later call tells %v, not %v", s, third, kept)
			}
			h.scribble()
			if !sameMeaning(first, kept) {
				t.Errorf("%s: an answer lies where the arguments did", s)
			}
		}
	}
}

// TestRefusedArgumentsAreNotChanged: nor are those that are wrong.
func TestRefusedArgumentsAreNotChanged(t *testing.T) {
	for _, c := range unsound() {
		h := hand(c, "[1, 2]")
		machine.New(h.c)
		machine.Run(h.c, h.known, h.open)
		if !sameHanded(h, hand(c, "[1, 2]")) {
			t.Errorf("%s: the arguments were changed", brief(c))
		}
	}
	for _, o := range wrongOutcomes() {
		m := newOf(t, codeFor("a"))
		m.Step()
		given := roomyOutcome(o)
		m.Give(given)
		machine.Run(codeFor("a"), []api.Known{{Name: "a", Outcome: given}}, nil)
		if !sameRoomy(given, roomyOutcome(o)) {
			t.Errorf("%s: it was changed", brief(o))
		}
	}
}
