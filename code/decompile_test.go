package code_test

import (
	"slices"
	"strconv"
	"testing"

	"onceweb/api"
	"onceweb/code"
)

// wantExpr asks for the expression of c.
func wantExpr(t *testing.T, c api.Code, want api.Expr) {
	t.Helper()
	if x, e := code.Decompile(c); e != api.OK || !slices.Equal(x, want) {
		t.Errorf("Decompile(%s): %s, %v; want %s", brief(c), brief(x), e, brief(want))
	}
}

// wantNone asks that c is sound, and the code of no expression.
func wantNone(t *testing.T, c api.Code) {
	t.Helper()
	if e := code.Check(c); e != api.OK {
		t.Errorf("the test's own code is off: %s: %v", brief(c), e)
	}
	if x, e := code.Decompile(c); e != api.ErrNone || len(x) != 0 {
		t.Errorf("Decompile(%s): %s, %v; want ErrNone", brief(c), brief(x), e)
	}
}

// 9.3

func TestDecompile(t *testing.T) {
	for _, r := range []compiled{
		{"-7", "int -7; halt"}, {`"a\n"`, `text "a\n"; halt`}, {"a", "force a; halt"}, {"[]", "make 0; halt"}, {"[1, a, []]", "int 1; force a; make 0; make 3; halt"}, {"a - b * c", "force a; force b; force c; do mul; do sub; halt"}, {"size(a)", "force a; do size; halt"}, {"item(a, b) & c", "force a; force b; do item; force c; do join; halt"}, {"(a < b) == (c + d)", "force a; force b; do less; force c; force d; do add; do same; halt"},
		{"if a then 1 else 2", "force a; else 4; int 1; jump 5; int 2; halt"}, {`try fail("x") else b`, `try 5; text "x"; fail; done; jump 6; force b; halt`}, {"panic(a)", "force a; panic; halt"}, {"wait g . wait h . a", "gate g; gate h; force a; past; past; halt"}, {"(wait g . a) + (wait h . b)", "gate g; force a; past; gate h; force b; past; do add; halt"},
		// Many that end at one place.
		{"if a then b else if c then d else try f else if g then h else k", "force a; else 4; force b; jump 17; force c; else 8; force d; jump 17; try 12; force f; done; jump 17; force g; else 16; force h; jump 17; force k; halt"},
		{"if if a then 1 else 2 then if b then 3 else 4 else 5", "force a; else 4; int 1; jump 5; int 2; else 12; force b; else 10; int 3; jump 11; int 4; jump 13; int 5; halt"},
		{"try (try a else b) else try c else d", "try 8; try 5; force a; done; jump 6; force b; done; jump 13; try 12; force c; done; jump 13; force d; halt"},
		// Places that can not be come to.
		{`[fail("x"), wait g . a, try b else c]`, `text "x"; fail; gate g; force a; past; try 9; force b; done; jump 10; force c; make 3; halt`}, {`if fail("x") then a else b`, `text "x"; fail; else 5; force a; jump 6; force b; halt`}, {`wait g . panic("x")`, `gate g; text "x"; panic; past; halt`},
	} {
		wantExpr(t, codeOf(r.code), read(r.x))
	}
}

func TestNamesOfLocals(t *testing.T) {
	for _, r := range []struct{ x, want string }{
		{"let $x = a in $x", "let $l0 = a in $l0"}, {"let $l1 = a in $l1", "let $l0 = a in $l0"}, {"let $x = a in let $y = b in $x - $y", "let $l0 = a in let $l1 = b in $l0 - $l1"}, {"let $x = a in let $x = b in $x", "let $l0 = a in let $l1 = b in $l1"}, {"let $x = a in let $x = $x in $x", "let $l0 = a in let $l1 = $l0 in $l1"},
		{"let $x = let $y = a in $y in $x", "let $l0 = let $l0 = a in $l0 in $l0"}, {"let $l1 = a in let $l0 = b in [$l0, $l1]", "let $l0 = a in let $l1 = b in [$l1, $l0]"}, {"let $x = a in (let $y = b in $y) + (let $z = c in $z)", "let $l0 = a in (let $l1 = b in $l1) + (let $l1 = c in $l1)"}, {"let $x = a in 1", "let $l0 = a in 1"},
	} {
		wantExpr(t, mustCompile(t, read(r.x)), read(r.want))
	}
	// As many as may lie within each other.
	var x, want api.Expr
	for i := range api.MaxNest - 1 {
		x, want = append(x, ones(1)...), append(want, ones(1)...)
		if i == api.MaxNest-2 {
			x, want = append(x, api.Op{Kind: api.XLocal, Text: "x"}), append(want, api.Op{Kind: api.XLocal, Text: "l30"})
		}
	}
	for i := range api.MaxNest - 1 {
		x, want = append(x, api.Op{Kind: api.XLet, N: 2, Text: "x"}), append(want, api.Op{Kind: api.XLet, N: 2, Text: "l" + strconv.Itoa(api.MaxNest-2-i)})
	}
	wantExpr(t, mustCompile(t, x), want)
}

func TestCodesOfNoExpression(t *testing.T) {
	for _, s := range []string{
		// Jumps that are no XIf's and no XTry's, or go elsewhere.
		"int 1; jump 2; halt", "jump 1; int 1; halt", "int 1; else 2; int 1; halt", "int 1; jump 3; int 2; halt", "int 1; else 3; jump 3; int 2; halt", "int 1; else 4; int 2; jump 6; int 3; jump 6; halt", "int 1; else 5; int 1; jump 6; int 9; int 2; halt", "int 1; else 5; int 1; jump 6; fail; int 2; halt", "int 1; else 4; int 2; fail; int 3; halt", "int 9; int 1; else 3; halt", "int 9; int 1; else 5; int 2; do add; halt",
		// CTrys without a CDone, without a CJump, to one place.
		"try 3; int 1; fail; int 2; halt", "try 4; int 1; fail; jump 5; int 2; halt", "try 5; int 1; done; jump 6; fail; int 2; halt", "int 1; else 4; try 8; jump 5; try 8; int 1; done; jump 9; int 2; halt", "int 7; try 4; int 1; fail; do size; halt",
		// Locals that are left elsewhere than a part ends, or that nobody keeps.
		"int 1; keep 0; leave 0; int 1; halt", "int 1; keep 0; int 1; int 2; leave 0; do add; halt", "int 1; int 2; keep 0; do size; leave 0; halt", "int 1; fail; load 0; halt", "int 1; fail; load 255; do add; halt", "int 1; fail; leave 0; halt", "int 1; fail; keep 0; int 1; halt",
		// Gates of two names that end as one.
		"int 1; else 4; gate g; jump 5; gate h; int 1; past; halt",
		// Places that can not be come to.
		"int 1; fail; past; halt", "int 1; fail; past; past; past; halt", "int 1; fail; done; halt", "int 1; fail; gate g; halt", "int 1; fail; int 1; halt", "int 1; fail; do add; halt", "int 1; fail; jump 3; halt", "int 1; panic; make 0; halt", "int 1; panic; make 256; halt", "int 1; jump 3; do add; halt", "int 1; int 2; fail; halt", "int 1; fail; try 3; halt", "int 1; fail; done; jump 4; halt", "int 1; keep 0; int 1; fail; halt", "gate g; int 1; fail; halt", "int 1; jump 4; int 2; done; halt", "int 1; fail; int 1; past; gate g; halt", "int 1; fail; int 1; past; fail; halt",
	} {
		wantNone(t, codeOf(s))
	}
	// Numbers of XLets that no expression has.
	wantNone(t, codeOf("int 1; fail; int 1; keep 1; load 1; leave 1; do add; halt"))
	wantExpr(t, codeOf("int 1; fail; int 1; keep 0; load 0; leave 0; do add; halt"), read("fail(1) + (let $l0 = 1 in $l0)"))
}

func TestCodesOfExpressionsThatAreNotRight(t *testing.T) {
	// Too many operations, by one and by many.
	list := func(n int) api.Code {
		return append(slices.Repeat(api.Code{one}, n), api.Instr{Op: api.CMake, A: n}, halt)
	}
	wantExpr(t, list(api.MaxOps-1), append(ones(api.MaxOps-1), op(api.XList, api.MaxOps-1)))
	wantNone(t, list(api.MaxOps))
	wantNone(t, sums(code.MaxCode))
	// Too deep, by one and by many.
	sizes := func(n int) api.Code {
		return append(append(api.Code{one}, slices.Repeat(api.Code{{Op: api.CDo, A: api.XSize}}, n-1)...), halt)
	}
	wantExpr(t, sizes(api.MaxNest), append(ones(1), slices.Repeat(api.Expr{op(api.XSize, 1)}, api.MaxNest-1)...))
	wantNone(t, sizes(api.MaxNest+1))
	wantNone(t, sizes(api.MaxOps))
	lets := func(n int) api.Code {
		var c api.Code
		for i := range n {
			c = append(c, one, api.Instr{Op: api.CKeep, A: i})
		}
		c = append(c, one)
		for i := range n {
			c = append(c, api.Instr{Op: api.CLeave, A: n - 1 - i})
		}
		return append(c, halt)
	}
	wantNone(t, lets(api.MaxNest))
	if _, e := code.Decompile(lets(api.MaxNest - 1)); e != api.OK {
		t.Errorf("as many XLets as may be: %v", e)
	}
}
