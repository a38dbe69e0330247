package code_test

import (
	"fmt"
	"math"
	"slices"
	"strconv"
	"strings"
	"testing"

	"onceweb/api"
	"onceweb/code"
	"onceweb/grammar"
)

// read is the expression whose text s is.
func read(s string) api.Expr {
	x, f := grammar.ReadExpr(s)
	if f.Code != api.OK {
		panic(fmt.Sprint("no expression: ", s, f))
	}
	return x
}

// The words of the instructions, and of what CDo does, in the order of their numbers.
var (
	opWords = strings.Fields("int text force load keep leave make do else jump try done fail panic gate halt past")
	doWords = strings.Fields("add sub mul join item size less same")
)

// instr is the instruction that a line of these tests tells, well formed or not.
func instr(line string) api.Instr {
	word, tail, _ := strings.Cut(line, " ")
	at := slices.Index(opWords, word)
	if at < 0 {
		panic("no instruction: " + line)
	}
	in := api.Instr{Op: api.CInt + at}
	switch in.Op {
	case api.CText:
		text, err := strconv.Unquote(tail)
		if err != nil {
			panic("no text: " + line)
		}
		in.Text = text
	case api.CForce, api.CGate:
		in.Text = tail
	case api.CDo:
		in.A = api.XAdd + slices.Index(doWords, tail)
	case api.CDone, api.CFail, api.CPanic, api.CHalt, api.CPast:
	default:
		n, err := strconv.Atoi(tail)
		if err != nil {
			panic("no number: " + line)
		}
		in.A = n
	}
	return in
}

// codeOf is instructions, sound or not, as these tests write them: lines with semicolons between.
func codeOf(s string) api.Code {
	var c api.Code
	for _, line := range strings.Split(s, ";") {
		if line = strings.TrimSpace(line); line != "" {
			c = append(c, instr(line))
		}
	}
	return c
}

// brief is the beginning of what v is told as: some codes are very long.
func brief(v any) string {
	s := fmt.Sprint(v)
	return s[:min(len(s), 300)]
}

var (
	longName = strings.Repeat("z", api.MaxName)
	longText = strings.Repeat("x", api.MaxWord)
	keywords = strings.Fields("cell again tries base factor cap close fine fail panic if then else try wait let in item size")
	noNames  = append([]string{"", "A", "_a", "1", "1a", "a b", "a ", " a", "$a", "a-b", "é", "a\x00", "a\n", longName + "z", longText + "x"}, keywords...)
)

func op(kind, n int) api.Op { return api.Op{Kind: kind, N: n} }

// ones is so many XInts.
func ones(n int) api.Expr { return slices.Repeat(api.Expr{{Kind: api.XInt, Int: 1}}, n) }

// wantCode asks what x is compiled to.
func wantCode(t *testing.T, x api.Expr, want api.Code) {
	t.Helper()
	if c, e := code.Compile(x); e != api.OK || !slices.Equal(c, want) {
		t.Errorf("Compile(%s): %s, %v; want %s", brief(x), brief(c), e, brief(want))
	}
}

// compiled is an expression, and what it is compiled to.
type compiled struct{ x, code string }

func wantCodes(t *testing.T, rows []compiled) {
	t.Helper()
	for _, r := range rows {
		wantCode(t, read(r.x), codeOf(r.code))
	}
}

// 9.1: Compile

func TestExamples(t *testing.T) {
	wantCodes(t, []compiled{
		{"if a then 1 else 2", "force a; else 4; int 1; jump 5; int 2; halt"},
		{`try fail("x") else b`, `try 5; text "x"; fail; done; jump 6; force b; halt`},
		{"let $x = a in $x + $x", "force a; keep 0; load 0; load 0; do add; leave 0; halt"},
	})
	wantFault(t, "int 1\n", api.Fault{Code: api.ErrCode})
	wantFault(t, "int 1\nhalt", api.Fault{At: 1, Code: api.ErrForm})
}

func TestCompileOfEachKind(t *testing.T) {
	wantCodes(t, []compiled{
		{"0", "int 0; halt"}, {"7", "int 7; halt"}, {"-7", "int -7; halt"}, {strconv.Itoa(api.MaxInt), "int 9007199254740992; halt"}, {"-" + strconv.Itoa(api.MaxInt), "int -9007199254740992; halt"},
		{`""`, `text ""; halt`}, {`"a\"\n"`, `text "a\"\n"; halt`}, {`"` + longText + `"`, `text "` + longText + `"; halt`},
		{"a", "force a; halt"}, {longName, "force " + longName + "; halt"},
		{"[]", "make 0; halt"}, {"[1]", "int 1; make 1; halt"}, {`[1, "a", b]`, `int 1; text "a"; force b; make 3; halt`},
		{"a + b", "force a; force b; do add; halt"}, {"a - b", "force a; force b; do sub; halt"}, {"a * b", "force a; force b; do mul; halt"}, {"a & b", "force a; force b; do join; halt"},
		{"item(a, b)", "force a; force b; do item; halt"}, {"size(a)", "force a; do size; halt"}, {"a < b", "force a; force b; do less; halt"}, {"a == b", "force a; force b; do same; halt"},
		{"if a then b else c", "force a; else 4; force b; jump 5; force c; halt"},
		{"try a else b", "try 4; force a; done; jump 5; force b; halt"},
		{"fail(a)", "force a; fail; halt"}, {"panic(a)", "force a; panic; halt"},
		{"wait g . a", "gate g; force a; past; halt"},
		{"let $x = a in $x", "force a; keep 0; load 0; leave 0; halt"}, {"let $x = a in b", "force a; keep 0; force b; leave 0; halt"},
	})
}

func TestCompileOfOneWithinAnother(t *testing.T) {
	wantCodes(t, []compiled{
		{"a + b * c - d", "force a; force b; force c; do mul; do add; force d; do sub; halt"}, {"[[], [a, [b]], size([])]", "make 0; force a; force b; make 1; make 2; make 0; do size; make 3; halt"},
		// An XIf in each part of another one.
		{"if if a then b else c then d else f", "force a; else 4; force b; jump 5; force c; else 8; force d; jump 9; force f; halt"},
		{"if a then if b then c else d else f", "force a; else 8; force b; else 6; force c; jump 7; force d; jump 9; force f; halt"},
		{"if a then b else if c then d else f", "force a; else 4; force b; jump 9; force c; else 8; force d; jump 9; force f; halt"},
		// An XTry in each part of another one.
		{"try (try a else b) else c", "try 8; try 5; force a; done; jump 6; force b; done; jump 9; force c; halt"},
		{"try a else try b else c", "try 4; force a; done; jump 9; try 8; force b; done; jump 9; force c; halt"},
		// One in the other.
		{"try if a then b else c else d", "try 8; force a; else 5; force b; jump 6; force c; done; jump 9; force d; halt"},
		{"try a else if b then c else d", "try 4; force a; done; jump 9; force b; else 8; force c; jump 9; force d; halt"},
		{"if try a else b then c else d", "try 4; force a; done; jump 5; force b; else 8; force c; jump 9; force d; halt"},
		{"if a then (try b else c) else d", "force a; else 8; try 6; force b; done; jump 7; force c; jump 9; force d; halt"},
		{"if a then b else try c else d", "force a; else 4; force b; jump 9; try 8; force c; done; jump 9; force d; halt"},
		// Gates, failures and panics within others, and others within them.
		{"wait g . wait h . a", "gate g; gate h; force a; past; past; halt"}, {"1 + (wait g . a)", "int 1; gate g; force a; past; do add; halt"}, {"wait g . try a else b", "gate g; try 5; force a; done; jump 6; force b; past; halt"}, {"try wait g . a else b", "try 6; gate g; force a; past; done; jump 7; force b; halt"},
		{"fail(panic(a))", "force a; panic; fail; halt"}, {"fail(if a then b else c)", "force a; else 4; force b; jump 5; force c; fail; halt"}, {"if a then fail(b) else panic(c)", "force a; else 5; force b; fail; jump 7; force c; panic; halt"}, {"[fail(a), b]", "force a; fail; force b; make 2; halt"},
		{"let $x = wait g . a in wait h . $x", "gate g; force a; past; keep 0; gate h; load 0; past; leave 0; halt"}, {"let $x = if a then b else c in try $x else d", "force a; else 4; force b; jump 5; force c; keep 0; try 10; load 0; done; jump 11; force d; leave 0; halt"}, {"try let $x = a in b else c", "try 7; force a; keep 0; force b; leave 0; done; jump 8; force c; halt"},
	})
}

func TestNumbersOfLets(t *testing.T) {
	wantCodes(t, []compiled{
		// In the second part of another one, in its first part, and in both.
		{"let $x = a in let $y = b in $x - $y", "force a; keep 0; force b; keep 1; load 0; load 1; do sub; leave 1; leave 0; halt"},
		{"let $x = let $y = a in $y in $x", "force a; keep 0; load 0; leave 0; keep 0; load 0; leave 0; halt"},
		{"let $x = let $y = a in $y in let $z = $x in $z + $x", "force a; keep 0; load 0; leave 0; keep 0; load 0; keep 1; load 1; load 0; do add; leave 1; leave 0; halt"},
		{"let $x = a in let $y = let $z = b in $z + $x in [$x, $y]", "force a; keep 0; force b; keep 1; load 1; load 0; do add; leave 1; keep 1; load 0; load 1; make 2; leave 1; leave 0; halt"},
		{"let $x = a in (let $y = b in $y) + (let $z = c in $z)", "force a; keep 0; force b; keep 1; load 1; leave 1; force c; keep 1; load 1; leave 1; do add; leave 0; halt"},
		{"(let $x = a in $x) + (let $x = b in $x)", "force a; keep 0; load 0; leave 0; force b; keep 0; load 0; leave 0; do add; halt"},
		// Two of one name: the nearest one, in whose second part the local stands.
		{"let $x = a in let $x = b in $x", "force a; keep 0; force b; keep 1; load 1; leave 1; leave 0; halt"},
		{"let $x = a in let $x = $x in $x", "force a; keep 0; load 0; keep 1; load 1; leave 1; leave 0; halt"},
		{"let $x = a in (let $x = b in $x) + $x", "force a; keep 0; force b; keep 1; load 1; leave 1; load 0; do add; leave 0; halt"},
		{"let $x = a in let $y = b in let $x = c in [$x, $y]", "force a; keep 0; force b; keep 1; force c; keep 2; load 2; load 1; make 2; leave 2; leave 1; leave 0; halt"},
		{"let $x = a in let $y = b in let $y = $x in [$x, $y]", "force a; keep 0; force b; keep 1; load 0; keep 2; load 0; load 2; make 2; leave 2; leave 1; leave 0; halt"},
		{"let $x = let $x = a in $x in $x", "force a; keep 0; load 0; leave 0; keep 0; load 0; leave 0; halt"},
	})
}

func TestCompileAtTheLimits(t *testing.T) {
	lets, want := "", api.Code{}
	for i := range api.MaxNest - 1 {
		lets += "let $x = a in "
		want = append(want, api.Instr{Op: api.CForce, Text: "a"}, api.Instr{Op: api.CKeep, A: i})
	}
	want = append(want, api.Instr{Op: api.CLoad, A: api.MaxNest - 2})
	for i := range api.MaxNest - 1 {
		want = append(want, api.Instr{Op: api.CLeave, A: api.MaxNest - 2 - i})
	}
	wantCode(t, read(lets+"$x"), append(want, api.Instr{Op: api.CHalt}))
	most := slices.Repeat(api.Code{{Op: api.CInt, A: 1}}, api.MaxOps-1)
	wantCode(t, append(ones(api.MaxOps-1), op(api.XList, api.MaxOps-1)), append(most, api.Instr{Op: api.CMake, A: api.MaxOps - 1}, api.Instr{Op: api.CHalt}))
}

// wrongExpr is an expression that is not right, and names.Check's error of it.
type wrongExpr struct {
	x    api.Expr
	want api.Errno
}

func wrongExprs() []wrongExpr {
	l := []wrongExpr{
		{nil, api.ErrShape}, {api.Expr{}, api.ErrShape}, {ones(2), api.ErrShape}, {api.Expr{op(api.XAdd, 2)}, api.ErrShape}, {append(ones(1), op(api.XAdd, 2)), api.ErrShape}, {append(ones(2), op(api.XAdd, 3)), api.ErrShape}, {append(ones(2), op(api.XIf, 3)), api.ErrShape}, {append(ones(1), op(api.XList, -1)), api.ErrShape}, {append(ones(1), op(api.XList, math.MinInt)), api.ErrShape}, {append(ones(1), op(api.XList, math.MaxInt)), api.ErrShape},
		{api.Expr{{}}, api.ErrShape}, {api.Expr{{Kind: -1}}, api.ErrShape}, {append(ones(1), op(api.XLet+1, 1)), api.ErrShape}, {api.Expr{{Kind: math.MaxInt}}, api.ErrShape}, {api.Expr{{Kind: math.MinInt}}, api.ErrShape},
		{api.Expr{{Kind: api.XInt, Int: api.MaxInt + 1}}, api.ErrShape}, {api.Expr{{Kind: api.XInt, Int: -api.MaxInt - 1}}, api.ErrShape}, {api.Expr{{Kind: api.XInt, Text: "a"}}, api.ErrShape}, {api.Expr{{Kind: api.XText, Int: 1}}, api.ErrShape}, {append(ones(1), api.Op{Kind: api.XSize, N: 1, Text: "a"}), api.ErrShape},
		// Locals that are not bound.
		{api.Expr{{Kind: api.XLocal, Text: "x"}}, api.ErrShape}, {append(ones(1), api.Op{Kind: api.XLocal, Text: "y"}, api.Op{Kind: api.XLet, N: 2, Text: "x"}), api.ErrShape}, {api.Expr{{Kind: api.XLocal, Text: "x"}, {Kind: api.XInt}, {Kind: api.XLet, N: 2, Text: "x"}}, api.ErrShape},
		// Too many, a text that is too long, too deep.
		{append(ones(api.MaxOps), op(api.XList, api.MaxOps)), api.ErrLong}, {ones(api.MaxOps + 1), api.ErrLong}, {make(api.Expr, api.MaxItems+1), api.ErrLong}, {api.Expr{{Kind: api.XText, Text: longText + "x"}}, api.ErrLong}, {append(ones(1), slices.Repeat(api.Expr{op(api.XSize, 1)}, api.MaxNest)...), api.ErrLong},
		// Of two errors the one that comes first.
		{make(api.Expr, api.MaxOps), api.ErrShape}, {api.Expr{{Kind: api.XText, Text: longText + "x"}, op(api.XAdd, 2)}, api.ErrShape}, {append(api.Expr{{Kind: api.XLocal, Text: "x"}}, slices.Repeat(api.Expr{op(api.XSize, 1)}, api.MaxNest)...), api.ErrShape},
	}
	for _, s := range noNames {
		l = append(l, wrongExpr{api.Expr{{Kind: api.XName, Text: s}}, api.ErrShape}, wrongExpr{append(ones(1), api.Op{Kind: api.XGate, N: 1, Text: s}), api.ErrShape}, wrongExpr{append(ones(2), api.Op{Kind: api.XLet, N: 2, Text: s}), api.ErrShape})
	}
	return l
}

func TestCompileOfWrongExpressions(t *testing.T) {
	for _, w := range wrongExprs() {
		if c, e := code.Compile(w.x); e != w.want || len(c) != 0 {
			t.Errorf("Compile(%s): %s, %v; want %v", brief(w.x), brief(c), e, w.want)
		}
	}
}

// 9.1: Asked

// askedRow is a code, and what it asks for.
type askedRow struct{ code, asked string }

func TestAsked(t *testing.T) {
	for _, r := range []askedRow{
		{"int 1; halt", ""}, {`text "a"; halt`, ""}, {"make 0; halt", ""}, {"gate a; int 1; past; halt", ""}, {"force a; halt", "a"},
		{"force b; force a; do add; halt", "b a"}, {"force a; force a; do add; halt", "a"}, {"force b; force a; force b; force c; force a; make 5; halt", "b a c"},
		{"gate g; force a; past; halt", "a"}, {`text "b"; force a; make 2; halt`, "a"}, {"gate a; force b; past; force a; make 2; halt", "b a"},
		// In both ways, and in places that can not be come to.
		{"force c; else 4; force b; jump 5; force a; halt", "c b a"}, {"try 4; force b; done; jump 5; force a; halt", "b a"}, {"force b; fail; force a; halt", "b a"}, {"force b; jump 4; force c; force d; halt", "b c d"}, {"force b; jump 3; force b; halt", "b"},
		{"force " + longName + "; halt", longName}, {"force a; keep 0; load 0; leave 0; halt", "a"},
	} {
		want := strings.Fields(r.asked)
		if l, e := code.Asked(codeOf(r.code)); e != api.OK || !slices.Equal(l, want) {
			t.Errorf("Asked(%s): %v, %v; want %v", r.code, l, e, want)
		}
	}
}

func TestAskedAtTheLimit(t *testing.T) {
	var c api.Code
	var want []string
	for i := range code.MaxCode - 3 {
		name := "n" + strconv.Itoa(i%700)
		c = append(c, api.Instr{Op: api.CForce, Text: name})
		if i < 700 {
			want = append(want, name)
		}
	}
	c = append(c, api.Instr{Op: api.CFail}, api.Instr{Op: api.CForce, Text: "last"}, api.Instr{Op: api.CHalt})
	if l, e := code.Asked(c); e != api.OK || !slices.Equal(l, append(want, "last")) {
		t.Errorf("as many as may be: %s, %v", brief(l), e)
	}
}
