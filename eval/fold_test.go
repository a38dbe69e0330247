package eval_test

import (
	"math"
	"slices"
	"strconv"
	"strings"
	"testing"

	"onceweb/api"
	"onceweb/eval"
)

// wantFolded asks what x is folded to.
func wantFolded(t *testing.T, x, want api.Expr) {
	t.Helper()
	if f, e := eval.Fold(x); e != api.OK || !slices.Equal(f, want) {
		t.Errorf("Fold of %s: %s, %v; want %s", brief(x), brief(f), e, brief(want))
	}
}

// wantFolds asks what texts are folded to: each line is an expression, and what comes of it.
func wantFolds(t *testing.T, lines [][2]string) {
	t.Helper()
	for _, l := range lines {
		wantFolded(t, read(l[0]), read(l[1]))
	}
}

// wantStays asks of each text that it is folded already.
func wantStays(t *testing.T, lines ...string) {
	t.Helper()
	for _, l := range lines {
		wantFolded(t, read(l), read(l))
	}
}

// 8.2

func TestFoldOfOperations(t *testing.T) {
	wantFolds(t, [][2]string{
		{"1 + 2", "3"}, {"1 - 2", "-1"}, {"3 * -2", "-6"}, {`"a" & "b"`, `"ab"`}, {"[1] & [2, [3]]", "[1, 2, [3]]"}, {"[] & []", "[]"}, {"item([1, [2]], 1)", "[2]"}, {`item(["a"], 0)`, `"a"`},
		{`size("abc")`, "3"}, {"size([1, [2, 3]])", "2"}, {"size([])", "0"}, {"1 < 2", "1"}, {"2 < 1", "0"}, {`"a" < 1`, "0"}, {"[1] == [1]", "1"}, {`1 == "1"`, "0"},
		{"1 + 2 + 3", "6"}, {"1 + 2 * 3 - 4", "3"}, {"a + (1 + 2)", "a + 3"}, {"1 + 2 + a", "3 + a"}, {"[1 + 2, a, size([])]", "[3, a, 0]"}, {"[1, [2 + 3]] & [6]", "[1, [5], 6]"}, {"item([1, 2], 0 + 1) + 5", "7"}, {"(1 < 2) + (2 == 2)", "2"},
		{strconv.Itoa(most-1) + " + 1", strconv.Itoa(most)}, {"67108864 * 134217728", strconv.Itoa(most)}, {`"` + longText[1:] + `" & "x"`, `"` + longText + `"`},
	})
	wantStays(t,
		"1", "-1", `"a"`, "[]", `[1, "a", [[], 2]]`, "a", "[a]", "[1, a]", "[a, 1]", "1 + a", "a + 1", "a - a", "a * 1", `a & "b"`, `"b" & a`, "item(a, 0)", "item([1], a)", "size(a)", "1 < a", "a < 1", "a == a", "[1] == [a]", "item([1, a], 0)", "size([a])", "size(wait g . 1)", "a * 0", "a + 0",
		`1 + "a"`, `"a" + 1`, "1 - []", "[] * 1", `1 & "a"`, `"a" & 1`, `"a" & []`, "[] & 1", "1 & 2", "item([1], 1)", "item([1], -1)", "item([1], 4)", "item([], 0)", `item("a", 0)`, "item(1, 0)", `item([1], "a")`, "size(1)",
		strconv.Itoa(most)+" + 1", "-"+strconv.Itoa(most)+" - 1", "4294967296 * 4294967296", `"`+longText+`" & "x"`,
		// What does not come to a value is no literal to those around it.
		`size(1) + 1`, `(1 + "a") + 1`, `[1 + "a"]`, `1 < item([1], 4)`,
	)
}

// TestFoldOfListsAtTheirLimits: a literal may be as long, and as deep, as an expression.
func TestFoldOfListsAtTheirLimits(t *testing.T) {
	broadest := append(ones(api.MaxOps-1), op(api.XList, api.MaxOps-1))
	wantFolded(t, broadest, broadest)
	deepest := append(api.Expr{{Kind: api.XList}}, slices.Repeat(api.Expr{op(api.XList, 1)}, api.MaxNest-1)...)
	wantFolded(t, deepest, deepest)
	halves := slices.Concat(ones(126), api.Expr{op(api.XList, 126)}, ones(127), api.Expr{op(api.XList, 127), op(api.XJoin, 2)})
	wantFolded(t, halves, append(ones(253), op(api.XList, 253)))
	wantFolded(t, append(halves[:len(halves)-1:len(halves)-1], op(api.XLess, 2)), ones(1))
	sum := ones(1)
	for range api.MaxNest - 1 {
		sum = append(sum, api.Op{Kind: api.XInt, Int: 1}, op(api.XAdd, 2))
	}
	wantFolded(t, sum, api.Expr{{Kind: api.XInt, Int: api.MaxNest}})
}

func TestFoldOfIf(t *testing.T) {
	wantFolds(t, [][2]string{
		{"if 1 then a else b", "a"}, {"if 0 then a else b", "b"}, {"if -1 then a else b", "a"}, {"if " + strconv.Itoa(most) + " then a else b", "a"}, {"if 1 < 2 then a else b", "a"}, {"if 2 - 2 then a else b", "b"}, {"if size([]) then a else b", "b"},
		{"if 1 then 1 + 2 else b", "3"}, {"if 0 then a else [1 + 2, c]", "[3, c]"}, {"1 + (if 1 then 2 else a)", "3"}, {"if if 0 then 1 else 0 then a else b", "b"}, {"if a then if 1 then b else c else d", "if a then b else d"}, {"if a then 1 + 2 else 3 + 4", "if a then 3 else 7"},
		{`if 1 then wait g . a else b`, "wait g . a"}, {`if 0 then a else fail("x")`, `fail("x")`}, {`if 0 then a else 1 + "x"`, `1 + "x"`}, {"if item([0, 1], 1) then a else b", "a"}, {"if try 1 else c then a else b", "a"}, {"if let $x = 1 in 0 then a else b", "b"},
	})
	wantStays(t,
		"if a then 1 else 2", `if "" then a else b`, `if "1" then a else b`, "if [] then a else b", "if [1] then a else b", "if [0] then a else b", "if a then a else a", `if fail("x") then a else b`, `if 1 + "a" then a else b`, "if wait g . 1 then a else b", "if let $x = 1 in $x then a else b", "if [a] then 1 else 2",
		`if panic("x") then 1 else 2`, "if a < 1 then b else c",
	)
}

func TestFoldOfTry(t *testing.T) {
	wantFolds(t, [][2]string{
		{"try 1 else a", "1"}, {"try 0 else a", "0"}, {`try "a" else b`, `"a"`}, {`try [1, "a", []] else b`, `[1, "a", []]`}, {"try 1 + 2 else a", "3"}, {`try 1 + "a" else 2 + 3`, `try 1 + "a" else 5`}, {"try try 1 else a else b", "1"}, {"try a else try 1 else b", "try a else 1"}, {"(try 1 else a) + 2", "3"}, {"try if 1 then 2 else a else b", "2"},
	})
	wantStays(t, "try a else 1", `try fail("x") else 1`, `try panic("x") else 1`, "try wait g . 1 else 2", "try let $x = 1 in $x else 2", `try 1 + "a" else 2`, "try [a] else 1", "try [1, item([], 0)] else 1")
}

func TestFoldOfLet(t *testing.T) {
	wantFolds(t, [][2]string{
		{"let $x = 1 in 2", "2"}, {"let $x = 1 in a", "a"}, {`let $x = [1, "a"] in a + b`, "a + b"}, {"let $x = 1 + 2 in a", "a"}, {"let $x = 1 in 1 + 2", "3"}, {"(let $x = 1 in 2) + 3", "5"}, {"let $x = 1 + 2 in $x", "let $x = 3 in $x"}, {"let $x = a in 1 + 2", "let $x = a in 3"},
		// Another one's locals: of another name, of an XLet inside of the same name, or of one around.
		{"let $x = 1 in let $y = 2 in $x", "let $x = 1 in $x"}, {"let $x = 1 in let $y = 2 in $y", "let $y = 2 in $y"}, {"let $x = 1 in let $x = 2 in $x", "let $x = 2 in $x"}, {"let $x = 1 in let $x = 2 in let $x = 3 in $x", "let $x = 3 in $x"}, {"let $x = a in let $x = 2 in let $x = b in $x", "let $x = a in let $x = b in $x"},
		{"let $x = a in let $y = 1 in $x", "let $x = a in $x"}, {"let $x = 1 in [let $x = 2 in $x, let $x = 3 in $x]", "[let $x = 2 in $x, let $x = 3 in $x]"}, {"let $x = 1 in let $x = a in $x", "let $x = a in $x"}, {"let $x = a in let $x = 1 in let $y = $x in $y", "let $x = a in let $x = 1 in let $y = $x in $y"},
		// Locals that fold away.
		{"let $x = 1 in if 1 then 2 else $x", "2"}, {"let $x = 1 in try 5 else $x", "5"}, {"let $x = 1 in let $y = 2 in if 0 then $y else $x", "let $x = 1 in $x"}, {"let $x = 1 in if 0 then 2 else $x", "let $x = 1 in $x"}, {"let $x = 1 in let $x = if 0 then $x else 4 in $x", "let $x = 4 in $x"},
		{"let $x = let $y = 1 in 2 in a", "a"}, {"let $x = let $x = 1 in 2 in $x", "let $x = 2 in $x"},
	})
	wantStays(t,
		"let $x = 1 in $x", `let $x = "a" in [$x]`, "let $x = a in 2", "let $x = a in $x", `let $x = fail("n") in 1`, `let $x = 1 + "a" in 2`, "let $x = wait g . 1 in 2", "let $x = 1 in $x + $x", "let $x = 1 in wait g . $x", "let $x = [a] in 1", "let $x = 1 in if a then $x else 2", "let $x = 1 in try a else $x",
		"let $x = 1 in let $x = $x in 2", "let $x = 1 in let $x = $x in $x", "let $x = 1 in let $y = $x in 2", "let $x = 1 in (let $x = 2 in $x) + $x", "let $x = 1 in $x + (let $x = 2 in $x)", "let $x = 1 in let $x = [$x, a] in $x", "let $x = 1 in let $x = let $x = $x in $x in $x",
		"let $x = let $x = 1 in $x in $x", "let $x = 1 in let $y = 2 in $x + $y", "let $x = 1 in let $y = 2 in [$y, $x]",
	)
}

func TestFoldOfTheRest(t *testing.T) {
	wantFolds(t, [][2]string{{`fail("a" & "b")`, `fail("ab")`}, {`panic("a" & "b")`, `panic("ab")`}, {"fail(1 + 2)", "fail(3)"}, {"wait g . 1 + 2", "wait g . 3"}, {"(wait g . 1 + 2) + 3", "(wait g . 3) + 3"}, {"wait g . if 1 then a else b", "wait g . a"}})
	wantStays(t, `fail("a")`, `panic("a")`, "fail(1)", "panic([])", "wait g . 1", "wait g . wait h . a", "fail(a)", `[fail("a"), 1]`, `1 + fail("a")`)
}

func TestFoldExamples(t *testing.T) {
	less := api.Expr{{Kind: api.XInt, Int: 1}, {Kind: api.XInt, Int: 2}, op(api.XLess, 2), {Kind: api.XName, Text: "a"}, {Kind: api.XName, Text: "b"}, op(api.XIf, 3)}
	wantFolded(t, less, api.Expr{{Kind: api.XName, Text: "a"}})
	sum := api.Expr{{Kind: api.XName, Text: "a"}, {Kind: api.XInt, Int: 1}, {Kind: api.XInt, Int: 2}, op(api.XAdd, 2), op(api.XAdd, 2)}
	wantFolded(t, sum, api.Expr{{Kind: api.XName, Text: "a"}, {Kind: api.XInt, Int: 3}, op(api.XAdd, 2)})
	item := api.Expr{{Kind: api.XInt, Int: 1}, op(api.XList, 1), {Kind: api.XInt, Int: 4}, op(api.XItem, 2)}
	wantFolded(t, item, item)
}

func TestFoldOfWrongExpressions(t *testing.T) {
	for _, x := range wrongExprs() {
		if f, e := eval.Fold(x); e != api.ErrShape || len(f) != 0 {
			t.Errorf("Fold of %s: %s, %v; want none, %v", brief(x), brief(f), e, api.ErrShape)
		}
	}
}

// 8.3

func wantLiteral(t *testing.T, v api.Value, want api.Expr) {
	t.Helper()
	if l, e := eval.Literal(v); e != api.OK || !slices.Equal(l, want) {
		t.Errorf("Literal of %s: %s, %v; want %s", brief(v), brief(l), e, brief(want))
	}
}

func wantNoLiteral(t *testing.T, v api.Value, want api.Errno) {
	t.Helper()
	if l, e := eval.Literal(v); e != want || len(l) != 0 {
		t.Errorf("Literal of %s: %s, %v; want none, %v", brief(v), brief(l), e, want)
	}
}

func TestLiteral(t *testing.T) {
	// Values and their literals are written alike.
	for _, s := range []string{"0", "7", "-7", strconv.Itoa(most), "-" + strconv.Itoa(most), `""`, `"a\"\n\xff"`, `"` + longText + `"`, "[]", "[[]]", "[1]", `[1, "a", [], [[2], "b", [[]]], -3]`} {
		wantLiteral(t, outcome(s).Value, read(s))
	}
	four := api.Value{{Kind: api.VInt, Int: 4}, {Kind: api.VList, N: 1}}
	wantLiteral(t, four, api.Expr{{Kind: api.XInt, Int: 4}, op(api.XList, 1)})
}

func TestLiteralAtItsLimits(t *testing.T) {
	wantLiteral(t, broad(api.MaxOps), append(ones(api.MaxOps-1), op(api.XList, api.MaxOps-1)))
	wantNoLiteral(t, broad(api.MaxOps+1), api.ErrLong)
	wantNoLiteral(t, broad(api.MaxAtoms), api.ErrLong)
	wantLiteral(t, deep(api.MaxNest), append(api.Expr{{Kind: api.XList}}, slices.Repeat(api.Expr{op(api.XList, 1)}, api.MaxNest-1)...))
	// A value may be no deeper than an expression: one deeper, and it is none.
	wantNoLiteral(t, deep(api.MaxNest+1), api.ErrShape)
	both := slices.Concat(deep(api.MaxNest-1), broad(api.MaxOps-api.MaxNest), api.Value{{Kind: api.VList, N: 2}})
	if l, e := eval.Literal(both); e != api.OK || len(l) != api.MaxOps {
		t.Errorf("a literal that is as broad and as deep as may be: %s, %v", brief(l), e)
	}
	wantNoLiteral(t, slices.Concat(deep(api.MaxNest-1), broad(api.MaxOps-api.MaxNest+1), api.Value{{Kind: api.VList, N: 2}}), api.ErrLong)
}

func TestLiteralOfWrongValues(t *testing.T) {
	one := api.Value{{Kind: api.VInt, Int: 1}}
	for _, v := range []api.Value{
		nil, {}, {{}}, {{Kind: -1}}, {{Kind: 4}}, {{Kind: api.XList}}, {{Kind: math.MaxInt}}, append(one[:1:1], one...), {{Kind: api.VList, N: 1}}, {{Kind: api.VList, N: -1}}, append(one[:1:1], api.Atom{Kind: api.VList, N: 2}), append(one[:1:1], api.Atom{Kind: api.VList}), {{Kind: api.VList, N: math.MaxInt}},
		{{Kind: api.VInt, Int: most + 1}}, {{Kind: api.VInt, Int: -most - 1}}, {{Kind: api.VInt, N: 1}}, {{Kind: api.VInt, Text: "a"}}, {{Kind: api.VText, Int: 1}}, {{Kind: api.VText, Text: strings.Repeat("x", api.MaxWord+1)}}, {{Kind: api.VList, Int: 1}}, {{Kind: api.VList, Text: "a"}},
		broad(api.MaxAtoms + 1), broad(api.MaxItems + 1), deep(api.MaxNest + 1), deep(api.MaxOps), deep(api.MaxOps + 1), slices.Repeat(one, api.MaxOps+1),
	} {
		wantNoLiteral(t, v, api.ErrShape)
	}
}
