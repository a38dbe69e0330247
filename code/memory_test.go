package code_test

import (
	"slices"
	"testing"

	"onceweb/api"
	"onceweb/code"
)

// R3: nothing that is handed in is changed or kept, and what is answered is new memory, spare room too.

// roomy is l with room behind it that has members of its own, which nobody is to write over.
func roomy[T any](l []T, fill T) []T {
	r := append(slices.Clone(l), fill, fill, fill)
	return r[: len(l) : len(l)+3]
}

// scribble writes over all of l, its spare room too.
func scribble[T any](l []T, by T) {
	l = l[:cap(l)]
	for i := range l {
		l[i] = by
	}
}

// sameRoom tells whether two lists are the same, as far as there is room.
func sameRoom[T comparable](a, b []T) bool { return slices.Equal(a[:cap(a)], b[:cap(b)]) }

var (
	oddOp    = api.Op{Kind: 77, N: 77, Int: 77, Text: "odd"}
	oddInstr = api.Instr{Op: 77, A: 77, Text: "odd"}
)

// wantNew asks whether what call answers, of an argument, is new memory.
func wantNew[T, U comparable](t *testing.T, what string, given []T, oddGiven T, oddAnswer U, call func(l []T) []U) {
	t.Helper()
	l := roomy(given, oddGiven)
	first := call(l)
	kept := slices.Clone(first)
	second := call(l)
	scribble(second, oddAnswer)
	if !sameRoom(l, roomy(given, oddGiven)) {
		t.Errorf("%s of %s: the argument was changed, or an answer lies there", what, brief(given))
	}
	if !slices.Equal(first, kept) {
		t.Errorf("%s of %s: one answer lies where another one does", what, brief(given))
	}
	if third := call(l); !slices.Equal(third, kept) {
		t.Errorf("%s of %s: a later call tells %s, not %s", what, brief(given), brief(third), brief(kept))
	}
	scribble(l, oddGiven)
	if !slices.Equal(first, kept) {
		t.Errorf("%s of %s: an answer lies where the argument did", what, brief(given))
	}
}

func compile(x []api.Op) []api.Instr {
	c, _ := code.Compile(x)
	return c
}

func decompile(c []api.Instr) []api.Op {
	x, _ := code.Decompile(c)
	return x
}

func asked(c []api.Instr) []string {
	l, _ := code.Asked(c)
	return l
}

// errorsOf is what Check and Print tell of c, as a list.
func errorsOf(c []api.Instr) []string {
	s, e := code.Print(c)
	return []string{code.Check(c).Error(), e.Error(), s}
}

func TestAnswersShareNothing(t *testing.T) {
	for _, s := range []string{"1", `"a"`, "a", "[]", "[a, b, a]", "a + b", "if a then b else c", "try a else b", `fail("x")`, "wait g . a", "let $x = a in $x", "let $x = a in let $y = b in [$x, $y, c]", "try if a then wait g . b else c else [1, [2, d]]"} {
		wantNew(t, "Compile", read(s), oddOp, oddInstr, compile)
		c := mustCompile(t, read(s))
		wantNew(t, "Decompile", c, oddInstr, oddOp, decompile)
		wantNew(t, "Asked", c, oddInstr, "odd", asked)
		wantNew(t, "Check and Print", c, oddInstr, "odd", errorsOf)
	}
}

func TestReadCodesShareNothing(t *testing.T) {
	for _, s := range []string{"int 1\nhalt\n", "force a\nelse 4\ntext \"x\"\njump 5\nint 2\nhalt\n"} {
		first, f := code.Parse(s)
		kept := slices.Clone(first)
		second, _ := code.Parse(s)
		scribble(second, oddInstr)
		third, _ := code.Parse(s)
		if f != (api.Fault{}) || !slices.Equal(first, kept) || !slices.Equal(third, kept) {
			t.Errorf("%q: one answer lies where another one does", s)
		}
	}
}

// TestRefusedArgumentsAreNotChanged: nor are those that are wrong.
func TestRefusedArgumentsAreNotChanged(t *testing.T) {
	for _, w := range wrongExprs() {
		wantNew(t, "Compile", w.x, oddOp, oddInstr, compile)
	}
	for _, s := range []string{"halt", "int 1; int 2; halt", "int 1; halt; halt", "do add; halt", "jump 0; int 1; halt", "int 1; jump 2; halt", "int 1; fail; past; halt"} {
		wantNew(t, "Decompile", codeOf(s), oddInstr, oddOp, decompile)
		wantNew(t, "Asked", codeOf(s), oddInstr, "odd", asked)
		wantNew(t, "Check and Print", codeOf(s), oddInstr, "odd", errorsOf)
	}
	long := make(api.Code, code.MaxCode+1)
	wantNew(t, "Decompile", long, oddInstr, oddOp, decompile)
	wantNew(t, "Asked", long, oddInstr, "odd", asked)
}
