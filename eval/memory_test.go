package eval_test

import (
	"slices"
	"testing"

	"onceweb/api"
	"onceweb/eval"
)

// R3: nothing that is handed in is changed or kept, and what is answered is new memory, spare room too.

// roomy is l with room behind it that has members of its own, which nobody is to write over.
func roomy[T any](l []T, fill T) []T {
	r := append(slices.Clone(l), fill, fill, fill)
	return r[: len(l) : len(l)+3]
}

// scribble writes over all of l, its spare room too.
func scribble[T any](l []T, by T) {
	l = l[:cap(l)]
	for i := range l {
		l[i] = by
	}
}

var (
	oddAtom  = api.Atom{Kind: 77, N: 77, Int: 77, Text: "odd"}
	oddCrack = api.Crack{Kind: 77, N: 77, Text: "odd"}
	oddOp    = api.Op{Kind: 77, N: 77, Int: 77, Text: "odd"}
)

// handed is arguments of Eval with room behind every list.
type handed struct {
	x     api.Expr
	known []api.Known
	open  []string
}

func hand(x api.Expr) handed {
	var known []api.Known
	for _, k := range world {
		k.Outcome.Value = roomy(k.Outcome.Value, oddAtom)
		k.Outcome.Fail = roomy(k.Outcome.Fail, oddCrack)
		known = append(known, k)
	}
	return handed{x: roomy(x, oddOp), known: roomy(known, api.Known{Name: "odd"}), open: roomy(open, "odd")}
}

func (h handed) eval(t *testing.T) api.Meaning {
	t.Helper()
	m, e := eval.Eval(h.x, h.known, h.open)
	if e != api.OK {
		t.Fatalf("Eval of %s: %v", brief(h.x), e)
	}
	return m
}

func (h handed) scribble() {
	for _, k := range h.known {
		scribble(k.Outcome.Value, oddAtom)
		scribble(k.Outcome.Fail, oddCrack)
	}
	scribble(h.x, oddOp)
	scribble(h.known, api.Known{Name: "odd"})
	scribble(h.open, "odd")
}

func scribbleMeaning(m api.Meaning) {
	scribble(m.Outcome.Value, oddAtom)
	scribble(m.Outcome.Fail, oddCrack)
	scribble(m.Asked, "odd")
}

// sameRoom tells whether two lists are the same, as far as there is room.
func sameRoom[T comparable](a, b []T) bool { return slices.Equal(a[:cap(a)], b[:cap(b)]) }

// sameHanded tells whether nothing differs, spare room too.
func sameHanded(a, b handed) bool {
	sameKnown := func(k, l api.Known) bool {
		return k.Name == l.Name && k.Outcome.Kind == l.Outcome.Kind && sameRoom(k.Outcome.Value, l.Outcome.Value) && sameRoom(k.Outcome.Fail, l.Outcome.Fail)
	}
	return sameRoom(a.x, b.x) && slices.EqualFunc(a.known[:cap(a.known)], b.known[:cap(b.known)], sameKnown) && sameRoom(a.open, b.open)
}

func cloneMeaning(m api.Meaning) api.Meaning {
	m.Outcome.Value, m.Outcome.Fail, m.Asked = slices.Clone(m.Outcome.Value), slices.Clone(m.Outcome.Fail), slices.Clone(m.Asked)
	return m
}

func TestEvalSharesNothing(t *testing.T) {
	for _, s := range []string{
		"1", `"a"`, "[]", "one", "row", "full", "no", "oh", "far", "lost", "item(row, 2)", "[row, row]", "row & none", "none & row", "let $x = row in $x", "let $x = row in [$x, $x]", "if one then row else none", "try no else row", "try row else no", "try no else far", "wait door . row", "wait wall . row", "[one, wait wall . row]", `fail("a")`, "panic(word)", "1 + word",
		"let $x = row in let $y = $x in $y", "item([row, none], 0)", "odd",
	} {
		h, want := hand(read(s)), hand(read(s))
		first := h.eval(t)
		if !sameHanded(h, want) {
			t.Errorf("%s: the arguments were changed", s)
		}
		kept := cloneMeaning(first)
		second := h.eval(t)
		scribbleMeaning(second)
		if !sameMeaning(first, kept) {
			t.Errorf("%s: one answer lies where another one does", s)
		}
		if !sameHanded(h, want) {
			t.Errorf("%s: an answer lies where the arguments do", s)
		}
		if third := h.eval(t); !sameMeaning(third, kept) {
			t.Errorf("%s: a later call tells %s, not %s", s, brief(third), brief(kept))
		}
		h.scribble()
		if !sameMeaning(first, kept) {
			t.Errorf("%s: an answer lies where the arguments did", s)
		}
	}
}

func TestFoldSharesNothing(t *testing.T) {
	for _, s := range []string{"1", "a", "[]", "[1, a]", "1 + 2", "a + (1 + 2)", "if 1 then a else b", "if 0 then a else [b, c]", "if a then b else c", "try [1, 2] else a", "try a else b", "let $x = 1 in [a, b]", "let $x = 1 in $x", "wait g . a", "[1] & [2, [3]]", "item([1], 4)"} {
		x := roomy(read(s), oddOp)
		first, _ := eval.Fold(x)
		if !sameRoom(x, roomy(read(s), oddOp)) {
			t.Errorf("%s: the argument was changed", s)
		}
		kept := slices.Clone(first)
		second, _ := eval.Fold(x)
		scribble(second, oddOp)
		if !slices.Equal(first, kept) || !sameRoom(x, roomy(read(s), oddOp)) {
			t.Errorf("%s: an answer lies where another one does, or the argument", s)
		}
		if third, _ := eval.Fold(x); !slices.Equal(third, kept) {
			t.Errorf("%s: a later call tells %s, not %s", s, brief(third), brief(kept))
		}
		scribble(x, oddOp)
		if !slices.Equal(first, kept) {
			t.Errorf("%s: an answer lies where the argument did", s)
		}
	}
}

func TestLiteralSharesNothing(t *testing.T) {
	for _, s := range []string{"1", `"a"`, "[]", `[1, "a", [[]]]`} {
		v := roomy(outcome(s).Value, oddAtom)
		first, _ := eval.Literal(v)
		second, _ := eval.Literal(v)
		scribble(second, oddOp)
		if !slices.Equal(first, read(s)) || !sameRoom(v, roomy(outcome(s).Value, oddAtom)) {
			t.Errorf("%s: the argument was changed, or one answer lies where another one does", s)
		}
		scribble(v, oddAtom)
		if !slices.Equal(first, read(s)) {
			t.Errorf("%s: an answer lies where the argument did", s)
		}
	}
}

// TestRefusedArgumentsAreNotChanged: nor are those that are wrong.
func TestRefusedArgumentsAreNotChanged(t *testing.T) {
	for _, x := range wrongExprs() {
		h := hand(x)
		eval.Eval(h.x, h.known, h.open)
		eval.Fold(h.x)
		if !sameHanded(h, hand(x)) {
			t.Errorf("%s: the arguments were changed", brief(x))
		}
	}
}
