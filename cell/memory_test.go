package cell_test

import (
	"slices"
	"testing"

	"onceweb/api"
	"onceweb/cell"
)

// R3: nothing that is handed in is changed or kept, and what is answered is new memory, spare room too.

// roomy is l with room behind it that has members of its own, which nobody is to write over.
func roomy[T any](l []T, fill T) []T {
	r := append(slices.Clone(l), fill, fill, fill)
	return r[: len(l) : len(l)+3]
}

// scribble writes over all of l, its spare room too.
func scribble[T any](l []T, by T) {
	l = l[:cap(l)]
	for i := range l {
		l[i] = by
	}
}

// sameRoom tells whether two lists are the same, as far as there is room.
func sameRoom[T comparable](a, b []T) bool { return slices.Equal(a[:cap(a)], b[:cap(b)]) }

var (
	oddAtom  = api.Atom{Kind: 77, N: 77, Int: 77, Text: "odd"}
	oddCrack = api.Crack{Kind: 77, N: 77, Text: "odd"}
)

func roomyOutcome(o api.Outcome) api.Outcome {
	return api.Outcome{Kind: o.Kind, Value: roomy(o.Value, oddAtom), Fail: roomy(o.Fail, oddCrack)}
}

func sameRoomy(a, b api.Outcome) bool {
	return a.Kind == b.Kind && sameRoom(a.Value, b.Value) && sameRoom(a.Fail, b.Fail)
}

func scribbleOutcome(o api.Outcome) {
	scribble(o.Value, oddAtom)
	scribble(o.Fail, oddCrack)
}

// outOf is a cell's outcome, which it has.
func outOf(t *testing.T, c *cell.Cell) api.Outcome {
	t.Helper()
	o, e := c.Outcome()
	if e != api.OK {
		t.Fatalf("Outcome: %v", e)
	}
	return o
}

func TestEndKeepsNothing(t *testing.T) {
	for _, o := range rightOutcomes() {
		c := newCell(t, true, thrice)
		c.Begin(1, 3)
		given := roomyOutcome(o)
		if e := c.End(1, given, 4); e != api.OK {
			t.Fatalf("%s: %v", brief(o), e)
		}
		if !sameRoomy(given, roomyOutcome(o)) {
			t.Errorf("%s: End changed it", brief(o))
		}
		answered := outOf(t, c)
		scribbleOutcome(answered)
		if !sameRoomy(given, roomyOutcome(o)) {
			t.Errorf("%s: what is answered lies where it was handed in", brief(o))
		}
		scribbleOutcome(given)
		if got := outOf(t, c); !sameOutcome(got, o) {
			t.Errorf("%s: what was handed in is kept: %s", brief(o), brief(got))
		}
	}
}

func TestAnswersShareNothing(t *testing.T) {
	for _, o := range rightOutcomes() {
		c := newCell(t, true, thrice)
		c.Begin(1, 3)
		c.End(1, o, 4)
		first, second := outOf(t, c), outOf(t, c)
		scribbleOutcome(first)
		if !sameOutcome(second, o) {
			t.Errorf("%s: two answers lie in one place", brief(o))
		}
		if got := outOf(t, c); !sameOutcome(got, o) {
			t.Errorf("%s: an answer lies where the cell keeps it: %s", brief(o), brief(got))
		}
		d := c.Clone()
		scribbleOutcome(outOf(t, d))
		scribbleOutcome(outOf(t, c))
		c.Close()
		for _, x := range []*cell.Cell{c, d, c.Clone(), d.Clone()} {
			if got := outOf(t, x); !sameOutcome(got, o) {
				t.Errorf("%s: a cell, or a clone, tells %s", brief(o), brief(got))
			}
		}
	}
}

// TestAnswersStay: what was answered is not changed by what comes later.
func TestAnswersStay(t *testing.T) {
	for _, o := range rightOutcomes() {
		c := newCell(t, true, thrice)
		c.Begin(1, 3)
		c.End(1, o, 4)
		answered, d := outOf(t, c), c.Clone()
		c.Reset(5)
		for i, line := range []string{"[1, 2, 3]", "join(depth; closed)", `panic "q"`} {
			c.Begin(1, 5+i)
			c.End(1, outcome(line), 5+i)
			c.Reset(5 + i)
			if got := outOf(t, d); !sameOutcome(answered, o) || !sameOutcome(got, o) {
				t.Errorf("%s: behind %s: %s, %s", brief(o), line, brief(answered), brief(got))
			}
		}
	}
}

func TestRefusedArgumentsAreNotChanged(t *testing.T) {
	for _, o := range wrongOutcomes() {
		c := newCell(t, true, thrice)
		given := roomyOutcome(o)
		for _, task := range []int{-1, 0, 1} {
			c.End(task, given, 4)
			c.Begin(1, 3)
		}
		if !sameRoomy(given, roomyOutcome(o)) {
			t.Errorf("%s: it was changed", brief(o))
		}
	}
}
