package grammar_test

import (
	"fmt"
	"reflect"
	"slices"
	"strconv"
	"strings"
	"testing"

	"onceweb/api"
	"onceweb/grammar"
	"onceweb/lex"
	"onceweb/names"
)

// byWord is the operations that are written as a word alone.
var byWord = map[string]api.Op{
	"+": {Kind: api.XAdd, N: 2}, "-": {Kind: api.XSub, N: 2}, "*": {Kind: api.XMul, N: 2}, "&": {Kind: api.XJoin, N: 2}, "item": {Kind: api.XItem, N: 2},
	"size": {Kind: api.XSize, N: 1}, "<": {Kind: api.XLess, N: 2}, "==": {Kind: api.XSame, N: 2}, "if": {Kind: api.XIf, N: 3}, "try": {Kind: api.XTry, N: 2},
	"fail": {Kind: api.XFail, N: 1}, "panic": {Kind: api.XPanic, N: 1},
}

// op is one operation as these tests write it: 12, 'text, $local, list:2, gate:g, let:x, a word of byWord; else it is a name.
func op(s string) api.Op {
	if o, ok := byWord[s]; ok {
		return o
	}
	if n, err := strconv.Atoi(s); err == nil {
		return api.Op{Kind: api.XInt, Int: n}
	}
	switch before, after, _ := strings.Cut(s, ":"); {
	case s[0] == '\'':
		return api.Op{Kind: api.XText, Text: s[1:]}
	case s[0] == '$':
		return api.Op{Kind: api.XLocal, Text: s[1:]}
	case before == "list":
		n, _ := strconv.Atoi(after)
		return api.Op{Kind: api.XList, N: n}
	case before == "gate":
		return api.Op{Kind: api.XGate, N: 1, Text: after}
	case before == "let":
		return api.Op{Kind: api.XLet, N: 2, Text: after}
	}
	return api.Op{Kind: api.XName, Text: s}
}

// ops is operations with blanks between them.
func ops(s string) api.Expr {
	var e api.Expr
	for _, word := range strings.Fields(s) {
		e = append(e, op(word))
	}
	return e
}

var (
	longName = strings.Repeat("z", api.MaxName)
	most     = strconv.Itoa(api.MaxInt)
	fine     = api.Fault{}
	keywords = strings.Fields("cell again tries base factor cap close fine fail panic if then else try wait let in item size")
)

// brief is the beginning of what v is told as: some texts are very long.
func brief(v any) string {
	s := fmt.Sprint(v)
	return s[:min(len(s), 200)]
}

// placed is a text without the ^ in it, and the place where the ^ stood.
func placed(s string) (string, int) {
	at := strings.Index(s, "^")
	return strings.Replace(s, "^", "", 1), at
}

func wantExpr(t *testing.T, s string, want api.Expr) {
	t.Helper()
	if e, fault := grammar.ReadExpr(s); fault != fine || !slices.Equal(e, want) {
		t.Errorf("ReadExpr(%s): %s, %v; want %s", brief(s), brief(e), fault, brief(want))
	}
}

func wantNoExpr(t *testing.T, s string, want api.Fault) {
	t.Helper()
	if e, fault := grammar.ReadExpr(s); fault != want || e != nil {
		t.Errorf("ReadExpr(%s): %s, %v; want %v", brief(s), brief(e), fault, want)
	}
}

func wantPrinted(t *testing.T, e api.Expr, want string) {
	t.Helper()
	if s, code := grammar.PrintExpr(e); code != api.OK || s != want {
		t.Errorf("PrintExpr(%s): %s, %v; want %s", brief(e), brief(s), code, brief(want))
	}
}

func wantNotPrinted(t *testing.T, e api.Expr, want api.Errno) {
	t.Helper()
	if s, code := grammar.PrintExpr(e); code != want || s != "" {
		t.Errorf("PrintExpr(%s): %s, %v; want %v", brief(e), brief(s), code, want)
	}
}

// wantSet asks of Read, and of ReadOne, if there is one provider.
func wantSet(t *testing.T, s string, want ...api.Provider) {
	t.Helper()
	if l, fault := grammar.Read(s); fault != fine || len(l) != len(want) || len(l) > 0 && !reflect.DeepEqual(l, want) {
		t.Errorf("Read(%s): %s, %v; want %s", brief(s), brief(l), fault, brief(want))
	}
	if len(want) != 1 {
		return
	}
	if p, fault := grammar.ReadOne(s); fault != fine || !reflect.DeepEqual(p, want[0]) {
		t.Errorf("ReadOne(%s): %s, %v; want %s", brief(s), brief(p), fault, brief(want))
	}
}

func wantNoSet(t *testing.T, s string, want api.Fault) {
	t.Helper()
	if l, fault := grammar.Read(s); fault != want || l != nil {
		t.Errorf("Read(%s): %s, %v; want %v", brief(s), brief(l), fault, want)
	}
}

func wantNotOne(t *testing.T, s string, want api.Fault) {
	t.Helper()
	if p, fault := grammar.ReadOne(s); fault != want || !reflect.DeepEqual(p, api.Provider{}) {
		t.Errorf("ReadOne(%s): %s, %v; want %v", brief(s), brief(p), fault, want)
	}
}

func wantSetPrinted(t *testing.T, want string, l ...api.Provider) {
	t.Helper()
	if s, fault := grammar.Print(l); fault != fine || s != want {
		t.Errorf("Print(%s): %s, %v; want %s", brief(l), brief(s), fault, brief(want))
	}
}

func wantSetNotPrinted(t *testing.T, want api.Fault, l ...api.Provider) {
	t.Helper()
	if s, fault := grammar.Print(l); fault != want || s != "" {
		t.Errorf("Print(%s): %s, %v; want %v", brief(l), brief(s), fault, want)
	}
}

// told are expressions in their layout.
var told = []struct{ s, ops string }{
	{"0", "0"}, {"7", "7"}, {"-7", "-7"}, {"-1", "-1"}, {most, most}, {"-" + most, "-" + most},
	{`""`, "'"}, {`"a"`, "'a"}, {"a", "a"}, {"x_1", "x_1"}, {longName, longName}, {"cells", "cells"},
	{"[]", "list:0"}, {"[1]", "1 list:1"}, {"[1, a, -2]", "1 a -2 list:3"}, {"[[], [1, [2]], []]", "list:0 1 2 list:1 list:2 list:0 list:3"},
	{`fail("no")`, "'no fail"}, {"panic(a)", "a panic"}, {"size([a])", "a list:1 size"}, {"item(a, 0)", "a 0 item"}, {"size(size(item([], -1)))", "list:0 -1 item size size"},
	{"a + b", "a b +"}, {"a - b", "a b -"}, {"a & b", "a b &"}, {"a * b", "a b *"}, {"a < b", "a b <"}, {"a == b", "a b =="},
	{"a - 0", "a 0 -"}, {"a - 1", "a 1 -"}, {"a - -1", "a -1 -"}, {"-1 - -1", "-1 -1 -"}, {"-1 + 1", "-1 1 +"}, {"-1 * -1", "-1 -1 *"}, {"-1 < -1", "-1 -1 <"},
	{"if a then b else c", "a b c if"}, {"try a else b", "a b try"}, {"let $x = a in b", "a b let:x"}, {"wait g . a", "a gate:g"},
	{"let $" + longName + " = 1 in $" + longName, "1 $" + longName + " let:" + longName}, {"wait " + longName + " . 0", "0 gate:" + longName},
	// Rows go from the left, and products ahead of sums.
	{"a - b - c", "a b - c -"}, {"a - (b - c)", "a b c - -"}, {"a + b - c & d", "a b + c - d &"}, {"a & (b - (c + d))", "a b c d + - &"}, {"a * b * c", "a b * c *"}, {"a * (b * c)", "a b c * *"},
	{"a + b * c", "a b c * +"}, {"a * b + c", "a b * c +"}, {"(a + b) * c", "a b + c *"}, {"a * (b + c)", "a b c + *"}, {"a * b - c * d", "a b * c d * -"}, {"a + (b + c) * d", "a b c + d * +"},
	{"a + b < c + d", "a b + c d + <"}, {"a * b == c - d", "a b * c d - =="}, {"(a < b) < c", "a b < c <"}, {"a < (b < c)", "a b c < <"}, {"(a == b) == (c < d)", "a b == c d < =="}, {"(a < b) + c", "a b < c +"}, {"a * (b == c)", "a b c == *"},
	// An else belongs to the nearest one that lacks its own.
	{"if a then try b else c else d", "a b c try d if"}, {"if a then if b then c else d else e", "a b c d if e if"}, {"if a then b else if c then d else e", "a b c d e if if"},
	{"try try a else b else c", "a b try c try"}, {"try a else try b else c", "a b c try try"}, {"try if a then b else c else d", "a b c if d try"}, {"if try a else b then c else d", "a b try c d if"},
	{"if if a then b else c then d else e", "a b c if d e if"}, {"try wait g . let $x = a in $x else b", "a $x let:x gate:g b try"},
	// These go as far as they can.
	{"let $x = a in $x + b", "a $x b + let:x"}, {"(let $x = a in $x) + b", "a $x let:x b +"}, {"wait g . a < b", "a b < gate:g"}, {"(wait g . a) < b", "a gate:g b <"}, {"try a else b & c", "a b c & try"}, {"(try a else b) & c", "a b try c &"},
	{"if a then b else c * d", "a b c d * if"}, {"(if a then b else c) * d", "a b c if d *"}, {"d * (if a then b else c)", "d a b c if *"}, {"[let $x = 1 in $x, 2]", "1 $x let:x 2 list:2"}, {"item(wait g . a, try b else c)", "a gate:g b c try item"},
	// Locals.
	{"let $x = 1 in $x", "1 $x let:x"}, {"let $x = 1 in let $y = $x in $x + $y", "1 $x $x $y + let:y let:x"}, {"let $x = 1 in let $x = $x in $x", "1 $x $x let:x let:x"}, {"let $x = let $x = 1 in $x in $x", "1 $x let:x $x let:x"},
	{"let $x = let $y = 1 in $y in $x", "1 $y let:y $x let:x"}, {"let $x = 1 in (let $x = 2 in $x) + $x", "1 2 $x let:x $x + let:x"}, {"let $x = x in wait x . [$x, x]", "x $x x list:2 gate:x let:x"}, {"let $x = 1 in size(if $x then $x else fail($x))", "1 $x $x $x fail if size let:x"},
}

func TestTold(t *testing.T) {
	for _, c := range told {
		wantExpr(t, c.s, ops(c.ops))
		wantPrinted(t, ops(c.ops), c.s)
	}
	text := "a \"\\\n\x00\xff # ( ^ é"
	quoted := `"a \"\\\n\x00\xff # ( ^ \xc3\xa9"`
	wantExpr(t, "size("+quoted+")", api.Expr{{Kind: api.XText, Text: text}, op("size")})
	wantPrinted(t, api.Expr{{Kind: api.XText, Text: text}, op("size")}, "size("+quoted+")")
}

// 6.6, and brackets that are too many.
func TestLoose(t *testing.T) {
	for _, c := range []struct{ s, ops, layout string }{
		{"(1 + 2) - (3 - 4)", "1 2 + 3 4 - -", "1 + 2 - (3 - 4)"}, {"(1+2)-(3-4)", "1 2 + 3 4 - -", "1 + 2 - (3 - 4)"},
		{"(a - b) - c", "a b - c -", "a - b - c"}, {"a + (b * c)", "a b c * +", "a + b * c"}, {"(a * b) * c", "a b * c *", "a * b * c"}, {"(a + b) < (c + d)", "a b + c d + <", "a + b < c + d"},
		{"(a)", "a", "a"}, {"(((a)))", "a", "a"}, {"([(a), (-1)])", "a -1 list:2", "[a, -1]"}, {"fail((a))", "a fail", "fail(a)"}, {"item((a), ((0)))", "a 0 item", "item(a, 0)"}, {"(-1) - (-1)", "-1 -1 -", "-1 - -1"},
		{"1-1", "1 1 -", "1 - 1"}, {"1--1", "1 -1 -", "1 - -1"}, {"1 -1", "1 1 -", "1 - 1"}, {"- 1", "-1", "-1"}, {"-\n1", "-1", "-1"}, {"- 1 - - 1", "-1 -1 -", "-1 - -1"}, {"a-0", "a 0 -", "a - 0"},
		{"fail (a)", "a fail", "fail(a)"}, {"item ( a , 0 )", "a 0 item", "item(a, 0)"}, {"[ ]", "list:0", "[]"}, {"[ 1 , 2 ]", "1 2 list:2", "[1, 2]"}, {"[1,2]", "1 2 list:2", "[1, 2]"}, {"wait g.a", "a gate:g", "wait g . a"}, {"a==b", "a b ==", "a == b"},
		{"let$x=1in$x", "1 $x let:x", "let $x = 1 in $x"}, {"if(a)then(b)else(c)", "a b c if", "if a then b else c"}, {"(let $x = a in $x + b)", "a $x b + let:x", "let $x = a in $x + b"}, {"let $x = a in ($x + b)", "a $x b + let:x", "let $x = a in $x + b"},
		{"if a then (try b else c) else d", "a b c try d if", "if a then try b else c else d"}, {"let $x = (let $y = 1 in $y) in $x", "1 $y let:y $x let:x", "let $x = let $y = 1 in $y in $x"}, {" a # b\n + # c\n\tb \r\n# d", "a b +", "a + b"},
	} {
		wantExpr(t, c.s, ops(c.ops))
		wantPrinted(t, ops(c.ops), c.layout)
	}
}

// noExprs are texts of no expression, with a ^ at the place that is told, by their errors.
var noExprs = []struct {
	code  api.Errno
	texts []string
}{
	{api.ErrSyntax, []string{
		"^", "  ^", "# a^", "# a\n^",
		"-^0", "- ^0", "1 - -^0", "1 + -^0", "-^a", "-^-1", "-^(1)", "-^", "-^$x", `-^"1"`, "1 - -^- 1",
		"1 < 2 ^== 3", "1 == 2 ^< 3", "1 < 2 ^< 3", "1 == 2 ^== 3", "(1 < 2 ^< 3)", "[1 < 2 ^== 3]", "if a < b ^< c then", "a < b ^< c", "let $x = 1 < 2 ^== 3",
		"1 ^2", "a ^b", "a ^1", `1 ^"t"`, "1 ^[2]", "1 ^(2)", "a ^(b)", "(a) ^(b)", "a ^fail(b)", "a ^if", "a ^let", "a ^wait", "a ^try",
		"1 +^", "1 + ^+ 2", "^+ 1", "^* 1", "^& 1", "^< 1", "^== 1", "1 * ^* 2", "1 <^", "1 < ^== 2", "1 * ^+ 2", "1 + ^)", "^= 1", "^. 1", "^, 1", "^; 1",
		"(^", "(1^", "(^)", "(1 ^, 2)", "(1 ^]", "^)", "1 ^)", "((1)^", "(1) ^)",
		"[^", "[1^", "[1,^", "[1, 2^", "[^,", "[^, 1]", "[1, ^]", "[1 ^2]", "[1, ^, 2]", "[1 ^)", "[^)", "^]", "[] ^]", "[1 ^; 2]",
		"fail^", `fail ^"no"`, "fail(^)", "fail(1^", "fail(1 ^, 2)", "fail ^[1]", "fail ^a", "panic^", "panic(^)", "panic(1 ^, 2)", "panic ^a", "size^", "size ^a", "size(^)", "size(1 ^, 2)", "size(1 ^]",
		"item^", "item(^)", "item(1^", "item(1 ^)", "item(1,^", "item(1, ^)", "item(1, 2^", "item(1, 2 ^, 3)", "item ^[", "item(^, 1)", "item(1 ^2)", "item(1, 2 ^]",
		"if^", "if a^", "if a ^else", "if a then^", "if a then b^", "if a then b else^", "if a then ^else", "if ^then", "if a ^b", "if a then b ^then", "if a then b ^c", "if a then b else ^else", "if a ^, b", "if a then b ^)",
		"if a then try b else c^", "if a then if b then c else d^", "try try a else b^", "try if a then b else c^", "if a then b else c ^else d", "try a else b ^else c", "if a then try b else c ^then d", "if if a then b else c^",
		"try^", "try a^", "try a ^then b", "try a else^", "try ^else", "try a ^, b", "try a ^b",
		"let^", "let ^x = 1 in 2", "let ^1", `let ^"x"`, "let ^= 1", "let ^(", "let $x^", "let $x ^1", "let $x ^== 1 in 2", "let $x ^in 1", "let $x =^", "let $x = ^in", "let $x = 1^", "let $x = 1 ^then", "let $x = 1 ^, 2", "let $x = 1 in^", "let $x = 1 in $x ^in 2", "let $x = 1 in ^in",
		"wait^", "wait ^$g . 1", "wait ^if . 1", "wait ^1 . 1", "wait ^. 1", `wait ^"g" . 1`, "wait ^(g) . 1", "wait g^", "wait g ^1", "wait g ^= 1", "wait g .^", "wait g . ^. 1", "wait g . ^)",
		"1 ^;", "1 ^.", "1 ^= 2", "1 ^,", "1 ^then", "1 ^else", "1 ^in", "1 ^again", "1 ^tries", "1 ^close", "^cell a = 1;", "^again", "^tries", "^base", "^factor", "^cap", "^close", "^fine", "^then", "^else", "^in",
		"1 + ^if a then b else c", "1 * ^let $x = 1 in $x", "1 < ^try a else b", "1 == ^wait g . a", "1 & ^if", "- ^if",
		"^$if", "1 + ^$cell", "let $x = 1 in ^$let", "[^$in]", "let ^$if = 1 in 2", "let ^$in = 1 in $in", "let $x = 1 in let ^$size",
	}},
	{api.ErrLocal, []string{
		"^$x", "1 + -2 * ^$x", "let $x = ^$x in 1", "let $x = 1 in ^$y", "let $x = 1 in $x + ^$y", "let $x = 1 in ^$xx", "let $xx = 1 in ^$x", "(let $x = 1 in $x) + ^$x", "[let $x = 1 in $x, ^$x]", "item(let $x = 1 in $x, ^$x)",
		"let $x = let $y = 1 in $y in ^$y", "let $x = let $x = ^$x in 1 in 2", "let $x = 1 in let $y = ^$y in 2", "(let $x = 1 in let $x = 2 in $x) + ^$x", "wait x . ^$x", "x + ^$x", "if (let $x = 1 in $x) then ^$x else 1", "try (let $x = 1 in $x) else ^$x", "let $x = (let $y = 1 in $y) + ^$y in 1",
	}},
	// Of two that are wrong the first one.
	{api.ErrLocal, []string{"^$x )", "^$x $y", "^$x + $if", "[^$x", "let $x = ^$x 1", "if ^$x else"}},
	{api.ErrSyntax, []string{"1 ^) $x", "a ^$x", "let $x = 1 in $x ^$x", "let $x = 1 in $x ^$y", "let ^$if = $x in", "1 ^2 3", "^$if $x", "(1 ^] )", "-^0 $x", "wait ^$g . $x"}},
	// What is no token is told ahead of all.
	{api.ErrToken, []string{"1 + + ^?", "^A", "$x ^$", "1 2 ^!", "^$1"}},
	{api.ErrQuote, []string{`$x ^"`, `^"a`, `) ^"\x41"`}},
	{api.ErrNumber, []string{"^012", "1 2 ^00", "-^01", "^" + strconv.Itoa(api.MaxInt+1), "-^" + strconv.Itoa(api.MaxInt+1)}},
	{api.ErrLong, []string{"1 2 ^z" + longName, "^$z" + longName, `$x ^"` + strings.Repeat("a", api.MaxWord+1) + `"`, "^" + strings.Repeat("?", api.MaxText+1), "^" + strings.Repeat(" ", api.MaxText+1), strings.Repeat("( ", lex.MaxTokens) + "^?"}},
}

func TestNoExprs(t *testing.T) {
	for _, row := range noExprs {
		for _, c := range row.texts {
			s, at := placed(c)
			wantNoExpr(t, s, api.Fault{At: at, Code: row.code})
			// Where the last one lacks, it lacks behind what is blank too.
			if at == len(s) && row.code == api.ErrSyntax && !strings.Contains(s, "#") {
				wantNoExpr(t, s+" # b\n ", api.Fault{At: at + 6, Code: row.code})
			}
		}
	}
	for _, key := range keywords {
		wantNoExpr(t, "$"+key, api.Fault{At: 0, Code: api.ErrSyntax})
		wantNoExpr(t, "let $"+key+" = 1 in 2", api.Fault{At: 4, Code: api.ErrSyntax})
		wantNoExpr(t, "wait "+key+" . 1", api.Fault{At: 5, Code: api.ErrSyntax})
		wantNotOne(t, "cell "+key+" = 1;", api.Fault{At: 5, Code: api.ErrSyntax})
	}
}

// nest is a text of that depth, and its expression: the part's text, ahead and behind, and the operations behind it.
func nest(depth int, ahead, behind, word string) (string, api.Expr) {
	s, e := "0", ops("0")
	for range depth - 1 {
		s, e = ahead+s+behind, append(e, ops(word)...)
	}
	return s, e
}

// broad is a list of so many operations in all.
func broad(size int) (string, api.Expr) {
	return "[" + strings.Join(slices.Repeat([]string{"0"}, size-1), ", ") + "]", append(slices.Repeat(ops("0"), size-1), api.Op{Kind: api.XList, N: size - 1})
}

// nests are the ways in which expressions grow deep from the front.
var nests = [][3]string{
	{"[", "]", "list:1"}, {"size(", ")", "size"}, {"fail(", ")", "fail"}, {"panic(", ")", "panic"}, {"item(", ", 1)", "1 item"}, {"[", ", 1, a]", "1 a list:3"},
	{"", " + 1", "1 +"}, {"", " - a", "a -"}, {"", " & a", "a &"}, {"", " * 1", "1 *"}, {"wait g . ", "", "gate:g"}, {"if ", " then 1 else 2", "1 2 if"}, {"try ", " else 1", "1 try"}, {"let $x = ", " in 1", "1 let:x"},
}

func TestSizes(t *testing.T) {
	for _, n := range nests {
		s, e := nest(api.MaxNest, n[0], n[1], n[2])
		wantExpr(t, s, e)
		wantPrinted(t, e, s)
		wantExpr(t, strings.Repeat("(", 100)+s+strings.Repeat(")", 100), e)
		deep, tooDeep := nest(api.MaxNest+1, n[0], n[1], n[2])
		wantTooLong(t, deep)
		wantNotPrinted(t, tooDeep, api.ErrLong)
	}
	s, e := broad(api.MaxOps)
	wantExpr(t, s, e)
	wantPrinted(t, e, s)
	long, tooLong := broad(api.MaxOps + 1)
	wantTooLong(t, long)
	wantNotPrinted(t, tooLong, api.ErrLong)
	// As many parts as a text has room for.
	wantTooLong(t, "["+strings.Repeat("0,", lex.MaxTokens/2-50)+"0]")
	wantTooLong(t, strings.Repeat("[", lex.MaxTokens/2-50)+strings.Repeat("]", lex.MaxTokens/2-50))
	wantExpr(t, strings.Repeat("(", lex.MaxTokens/2-1)+"a"+strings.Repeat(")", lex.MaxTokens/2-1), ops("a"))
	wantNoExpr(t, strings.Repeat("[", lex.MaxTokens), api.Fault{At: lex.MaxTokens, Code: api.ErrSyntax})
}

// wantTooLong asks of an expression that is too long, or too deep, where that is told, and what is told ahead of it.
func wantTooLong(t *testing.T, s string) {
	t.Helper()
	wantNoExpr(t, s, api.Fault{At: 0, Code: api.ErrLong})
	wantNoExpr(t, " # a\n"+s+" # b", api.Fault{At: 5, Code: api.ErrLong})
	wantNoExpr(t, " ("+s+")", api.Fault{At: 1, Code: api.ErrLong})
	wantNoExpr(t, s+" )", api.Fault{At: len(s) + 1, Code: api.ErrSyntax})
	wantNoExpr(t, "[1, "+s, api.Fault{At: len(s) + 4, Code: api.ErrSyntax})
	wantNoExpr(t, "[1, "+s+", $x]", api.Fault{At: len(s) + 6, Code: api.ErrLocal})
	ahead := "cell a = "
	end := len(ahead) + len(s)
	for _, rest := range []string{";", " again;", " again x", " tries 0 base 0 factor 1 cap 0;", " tries x", " close fine;", " close", "; x", "; cell a = 1;"} {
		wantNotOne(t, ahead+s+rest, api.Fault{At: len(ahead), Code: api.ErrLong})
		wantNoSet(t, ahead+s+rest, api.Fault{At: len(ahead), Code: api.ErrLong})
	}
	for _, rest := range []string{"x", "base", "fine", ")", "cell", "$x", "else"} {
		wantNotOne(t, ahead+s+" "+rest+";", api.Fault{At: end + 1, Code: api.ErrSyntax})
		wantNoSet(t, ahead+s+" "+rest+";", api.Fault{At: end + 1, Code: api.ErrSyntax})
	}
	wantNotOne(t, ahead+s, api.Fault{At: end, Code: api.ErrSyntax})
	wantNoSet(t, "cell b = 1; cell b = "+s+";", api.Fault{At: 17, Code: api.ErrTwice})
}

// sets are providers in their layout.
var sets = []struct {
	s string
	l []api.Provider
}{
	{"", nil},
	{"cell a = 1;\n", []api.Provider{{Name: "a", Expr: ops("1")}}},
	{"cell a = -1;\n", []api.Provider{{Name: "a", Expr: ops("-1")}}},
	{"cell " + longName + " = [];\n", []api.Provider{{Name: longName, Expr: ops("list:0")}}},
	{"cell a = b again;\n", []api.Provider{{Name: "a", Expr: ops("b"), Again: true}}},
	{"cell a = b tries 3 base 1 factor 2 cap 10;\n", []api.Provider{{Name: "a", Expr: ops("b"), Policy: api.Policy{Tries: 3, Base: 1, Factor: 2, Cap: 10}}}},
	{"cell a = b tries 1 base 0 factor 1 cap 0;\n", []api.Provider{{Name: "a", Expr: ops("b"), Policy: api.Policy{Tries: 1, Factor: 1}}}},
	{"cell a = b close fine;\n", []api.Provider{{Name: "a", Expr: ops("b"), Closer: api.Closer{Kind: api.CloseFine}}}},
	{"cell a = b close fail \"no\";\n", []api.Provider{{Name: "a", Expr: ops("b"), Closer: api.Closer{Kind: api.CloseFail, Text: "no"}}}},
	{"cell a = b close fail \"\";\n", []api.Provider{{Name: "a", Expr: ops("b"), Closer: api.Closer{Kind: api.CloseFail}}}},
	{"cell a = b close panic \"a \\\"\\n;\";\n", []api.Provider{{Name: "a", Expr: ops("b"), Closer: api.Closer{Kind: api.ClosePanic, Text: "a \"\n;"}}}},
	{"cell a = b close panic \"\";\n", []api.Provider{{Name: "a", Expr: ops("b"), Closer: api.Closer{Kind: api.ClosePanic}}}},
	{"cell a = b again tries 3 base 1 factor 2 cap 10;\n", []api.Provider{{Name: "a", Expr: ops("b"), Again: true, Policy: api.Policy{Tries: 3, Base: 1, Factor: 2, Cap: 10}}}},
	{"cell a = b again close fine;\n", []api.Provider{{Name: "a", Expr: ops("b"), Again: true, Closer: api.Closer{Kind: api.CloseFine}}}},
	{"cell a = b tries 3 base 1 factor 2 cap 10 close panic \"oh\";\n", []api.Provider{{Name: "a", Expr: ops("b"), Policy: api.Policy{Tries: 3, Base: 1, Factor: 2, Cap: 10}, Closer: api.Closer{Kind: api.ClosePanic, Text: "oh"}}}},
	{"cell a = if b < 3 then [b, \"x\"] else -1 again tries 3 base 1 factor 2 cap 10 close fail \"no\";\n", []api.Provider{{Name: "a", Expr: ops("b 3 < b 'x list:2 -1 if"), Again: true, Policy: api.Policy{Tries: 3, Base: 1, Factor: 2, Cap: 10}, Closer: api.Closer{Kind: api.CloseFail, Text: "no"}}}},
	{"cell a = let $x = b in wait g . $x;\ncell b = try fail(\"no\") else a close fine;\n", []api.Provider{{Name: "a", Expr: ops("b $x gate:g let:x")}, {Name: "b", Expr: ops("'no fail a try"), Closer: api.Closer{Kind: api.CloseFine}}}},
	{"cell c = a;\ncell a = b again;\ncell b = a;\n", []api.Provider{{Name: "c", Expr: ops("a")}, {Name: "a", Expr: ops("b"), Again: true}, {Name: "b", Expr: ops("a")}}},
}

func TestSets(t *testing.T) {
	for _, c := range sets {
		wantSet(t, c.s, c.l...)
		wantSetPrinted(t, c.s, c.l...)
	}
	for _, s := range []string{"", " ", "\n\t\r", "# cell a = 1;", "#\n#\n"} {
		wantSet(t, s)
	}
	wantSet(t, "cell a=b+1;cell b=(2)again close fine ; # c\n", api.Provider{Name: "a", Expr: ops("b 1 +")}, api.Provider{Name: "b", Expr: ops("2"), Again: true, Closer: api.Closer{Kind: api.CloseFine}})
	// Four noughts are no policy, and right: they are printed as none.
	wantSet(t, "cell a = 1 tries 0 base 0 factor 0 cap 0;", api.Provider{Name: "a", Expr: ops("1")})
}

// noProviders are texts that are no providers, for ReadOne and Read alike, as noExprs.
var noProviders = []struct {
	code  api.Errno
	texts []string
}{
	{api.ErrSyntax, []string{
		"^a", "^1", "^= 1;", "^;", "^again", "^(cell a = 1;)", "^\"cell\" a = 1;", "^$cell a = 1;", "^if a then b else c",
		"cell^", "cell ^1", "cell ^$a = 1;", "cell ^= 1;", "cell ^cell", `cell ^"a" = 1;`, "cell a^", "cell a ^1;", "cell a ^== 1;", "cell a ^b = 1;", "cell a ^;", "cell a =^", "cell a = ^;", "cell a = ^= 1;", "cell a = ^again;", "cell a = ^cell b = 1;",
		"cell a = 1^", "cell a = 1 ^2;", "cell a = 1 ^);", "cell a = 1 ^else 2;", "cell a = 1 ^, 2;", "cell a = 1 ^.", "cell a = 1 ^base 1;", "cell a = 1 ^factor 1;", "cell a = 1 ^cap 1;", "cell a = 1 ^fine;", "cell a = 1 ^fail \"no\";", "cell a = 1 ^cell b = 2;", "cell a = 1 < 2 ^< 3;", "cell a = 1 +^", "cell a = 1 + ^;", "cell a = (1 ^;", "cell a = [1, ^;", "cell a = 1 ^in 2;", "cell a = 1 ^\"t\";",
		"cell a = if b then c ^;", "cell a = if b then c ^again;", "cell a = try b ^close fine;", "cell a = let $x = 1 ^;", "cell a = let ^$fine = 1 in 2;", "cell a = -^0;", "cell a = if b then try c else d ^;",
		"cell a = 1 again^", "cell a = 1 again ^again;", "cell a = 1 again ^1;", "cell a = 1 again ^base 1;", "cell a = 1 again ^+ 1;", "cell a = 1 again ^fine;",
		"cell a = 1 tries^", "cell a = 1 tries ^base", "cell a = 1 tries ^a base", "cell a = 1 tries ^-1 base", "cell a = 1 tries ^\"3\"", "cell a = 1 tries ^(3)", "cell a = 1 tries ^;", "cell a = 1 tries 3^", "cell a = 1 tries 3 ^;", "cell a = 1 tries 3 ^factor", "cell a = 1 tries 3 ^4", "cell a = 1 tries 3 base^", "cell a = 1 tries 3 base ^factor", "cell a = 1 tries 3 base ^-1", "cell a = 1 tries 3 base 1^", "cell a = 1 tries 3 base 1 ^cap", "cell a = 1 tries 3 base 1 ^;", "cell a = 1 tries 3 base 1 factor^", "cell a = 1 tries 3 base 1 factor ^cap", "cell a = 1 tries 3 base 1 factor 2^", "cell a = 1 tries 3 base 1 factor 2 ^;", "cell a = 1 tries 3 base 1 factor 2 ^close", "cell a = 1 tries 3 base 1 factor 2 cap^", "cell a = 1 tries 3 base 1 factor 2 cap ^;", "cell a = 1 tries 3 base 1 factor 2 cap 10^",
		"cell a = 1 tries 3 base 1 factor 2 cap 10 ^again;", "cell a = 1 tries 3 base 1 factor 2 cap 10 ^tries 3 base 1 factor 2 cap 10;", "cell a = 1 tries 3 base 1 factor 2 cap 10 ^+ 1;", "cell a = 1 tries 3 base 1 factor 2 cap 10 ^11;",
		"cell a = 1 close^", "cell a = 1 close ^;", "cell a = 1 close ^none;", "cell a = 1 close ^\"a\";", "cell a = 1 close fine^", "cell a = 1 close fine ^\"a\";", "cell a = 1 close fail^", "cell a = 1 close fail ^;", "cell a = 1 close fail ^(\"a\");", "cell a = 1 close fail ^a;", "cell a = 1 close fail \"a\"^", "cell a = 1 close fail \"a\" ^\"b\";", "cell a = 1 close fail \"a\" ^& \"b\";", "cell a = 1 close panic^", "cell a = 1 close panic ^;", "cell a = 1 close panic ^1;", "cell a = 1 close panic \"a\"^",
		"cell a = 1 close fine ^close fine;", "cell a = 1 close fine ^again;", "cell a = 1 close fine ^tries 3 base 1 factor 2 cap 10;", "cell a = 1 close fine ^fine;", "cell a = 1 close ^close fine;", "cell a = 1 close ^panics \"a\";",
		"cell a = 1; ^x", "cell a = 1; ^;", "cell a = 1; ^again;", "cell a = 1; ^1", "cell a = 1; ^)",
	}},
	{api.ErrLocal, []string{"cell a = ^$x;", "cell a = let $x = ^$x in $x;", "cell x = ^$x;", "cell a = ^$a;"}},
	{api.ErrPolicy, []string{
		"cell a = 1 ^tries 0 base 0 factor 1 cap 0;", " cell a = 1 again ^tries 1 base 2 factor 1 cap 1 close fine;", "cell a = 1 ^tries 3 base 1 factor 2 cap 0 close fail \"no\";",
		// It is told behind the ;: whatever comes then.
		"cell a = 1 ^tries 0 base 0 factor 1 cap 0; x", "cell a = 1 ^tries 0 base 0 factor 1 cap 0; cell a = 2;", "cell a = 1 ^tries 0 base 0 factor 1 cap 0; cell", "cell a = 1 ^tries 0 base 0 factor 1 cap 0; )",
	}},
	// But what is wrong ahead of the ; is told first.
	{api.ErrSyntax, []string{"cell a = 1 tries 0 base 0 factor 1 cap 0 ^x;", "cell a = 1 tries 0 base 0 factor 1 cap 0^", "cell a = 1 tries 0 base 0 factor 1 cap 0 close ^;", "cell a = 1 ^x tries 0 base 0 factor 1 cap 0;", "cell a = 1 tries 0 base 0 factor ^x;"}},
	{api.ErrLocal, []string{"cell a = ^$x tries 0 base 0 factor 1 cap 0;", "cell a = ^$x x;", "cell a = ^$x"}},
	{api.ErrSyntax, []string{"cell a ^$x;", "cell a = 1 ^$x;", "cell a = 1 again ^$x;", "cell a = let $x = 1 in $x; ^$x", "cell a = let $x = 1 in $x again ^$x"}},
	{api.ErrToken, []string{"cell cell ^?", "cell a = 1 tries 0 base 0 factor 1 cap 0; ^A", "cell a = $x; ^!"}},
	{api.ErrNumber, []string{"cell a = 1 tries ^01", "x ^00", "cell a = 1 tries 1 base 0 factor 1 cap ^" + strconv.Itoa(api.MaxInt+1) + ";"}},
	{api.ErrQuote, []string{"cell a = 1 close fail ^\"no;", "cell ^\"\\q\""}},
	{api.ErrLong, []string{"cell a = ^z" + longName + ";", "x cell ^z" + longName, "cell a = 1 close fail ^\"" + strings.Repeat("a", api.MaxWord+1) + "\";", "^" + strings.Repeat("\n", api.MaxText+1), strings.Repeat("; ", lex.MaxTokens) + "^?"}},
}

func TestNoProviders(t *testing.T) {
	for _, row := range noProviders {
		for _, c := range row.texts {
			s, at := placed(c)
			wantNotOne(t, s, api.Fault{At: at, Code: row.code})
			wantNoSet(t, s, api.Fault{At: at, Code: row.code})
			if row.code != api.ErrLong {
				wantNoSet(t, "cell q = 1;"+s, api.Fault{At: at + 11, Code: row.code})
			}
			if at == len(s) && row.code == api.ErrSyntax {
				wantNotOne(t, s+" # b\n ", api.Fault{At: at + 6, Code: row.code})
				wantNoSet(t, s+" # b\n ", api.Fault{At: at + 6, Code: row.code})
			}
		}
	}
	// Just one.
	for _, c := range []string{"^", "  ^", "# cell a = 1;^", "cell a = 1; ^cell b = 2;", "cell a = 1; ^cell a = 2;", "cell a = 1;\n# b\n^cell"} {
		s, at := placed(c)
		wantNotOne(t, s, api.Fault{At: at, Code: api.ErrSyntax})
	}
}

func TestTwice(t *testing.T) {
	for _, c := range []string{
		"cell a = 1; cell ^a = 2;", "cell a = 1;cell ^a", "cell a = 1; cell ^a x", "cell a = 1; cell ^a = $x;", "cell a = 1; cell b = 2; cell ^a = 3;", "cell a = 1; cell b = 2; cell ^b = 3; cell a = 4;", "cell a = b; cell b = a; cell ^b = 1 tries 0 base 0 factor 1 cap 0;", "cell a = 1; cell ^a = 2; )",
	} {
		s, at := placed(c)
		wantNoSet(t, s, api.Fault{At: at, Code: api.ErrTwice})
	}
	// A name that stands ahead, but not as that of a provider.
	for _, c := range []string{"cell a = b; cell b = a;", "cell a = wait b . let $c = d in $c; cell b = 1; cell c = 2; cell d = 3;", "cell a = a;", "cell aa = 1; cell a = 2;"} {
		if l, fault := grammar.Read(c); fault != fine || len(l) != strings.Count(c, ";") {
			t.Errorf("Read(%s): %v, %v", c, l, fault)
		}
	}
	wantNoSet(t, "cell a = 1 x; cell a = 2;", api.Fault{At: 11, Code: api.ErrSyntax})
}

// many is the text of so many providers, and they themselves.
func many(n int, expr, words string) (string, []api.Provider) {
	var s strings.Builder
	var l []api.Provider
	for i := range n {
		name := "a" + strconv.Itoa(i)
		s.WriteString("cell " + name + " = " + expr + ";\n")
		l = append(l, api.Provider{Name: name, Expr: ops(words)})
	}
	return s.String(), l
}

func TestManyProviders(t *testing.T) {
	s, l := many(api.MaxCells, "1", "1")
	wantSet(t, s, l...)
	wantSetPrinted(t, s, l...)
	for _, rest := range []string{"cell b = 1;", "cell", "cell a0 = 1;", "cell 1", "cell b = $x;", "cell b = 1; )"} {
		wantNoSet(t, s+"# b\n"+rest, api.Fault{At: len(s) + 4, Code: api.ErrLong})
	}
	for _, rest := range []string{"a", ";", ")", "again", "\"cell\"", "$cell"} {
		wantNoSet(t, s+rest, api.Fault{At: len(s), Code: api.ErrSyntax})
	}
	wantNoSet(t, s[:len(s)-2]+" x; cell", api.Fault{At: len(s) - 1, Code: api.ErrSyntax})
	_, tooMany := many(api.MaxCells+1, "1", "1")
	wantSetNotPrinted(t, api.Fault{Code: api.ErrLong}, tooMany...)
	// More tokens than a text may have.
	expr := "1 + 1 + 1 + 1 + 1 + 1 + 1 + 1 + 1 + 1 + 1 + 1 + 1 + 1 + 1 + 1 + 1"
	s, l = many(api.MaxCells, expr, "1"+strings.Repeat(" 1 +", 16))
	wantSetPrinted(t, s, l...)
	_, fault := lex.Tokens(s)
	if fault.Code != api.ErrLong || fault.At == 0 {
		t.Fatalf("the test's own text has too few tokens: %v", fault)
	}
	wantNoSet(t, s, fault)
}

func TestPolicies(t *testing.T) {
	text := func(p api.Policy) string {
		return fmt.Sprintf("cell a = 1 tries %d base %d factor %d cap %d;\n", p.Tries, p.Base, p.Factor, p.Cap)
	}
	for _, p := range []api.Policy{
		{Tries: 1, Base: 0, Factor: 1, Cap: 0}, {Tries: 64, Base: 0, Factor: 1, Cap: 0}, {Tries: 1, Base: 1 << 30, Factor: 1, Cap: 1 << 30}, {Tries: 1, Base: 0, Factor: 16, Cap: 0}, {Tries: 1, Base: 0, Factor: 1, Cap: api.MaxTick}, {Tries: 1, Base: 7, Factor: 1, Cap: 7},
		{Tries: 64, Base: 1 << 30, Factor: 16, Cap: api.MaxTick},
	} {
		wantSet(t, text(p), api.Provider{Name: "a", Expr: ops("1"), Policy: p})
		wantSetPrinted(t, text(p), api.Provider{Name: "a", Expr: ops("1"), Policy: p})
	}
	for _, p := range []api.Policy{
		{Tries: 0, Base: 0, Factor: 1, Cap: 0}, {Tries: 65, Base: 0, Factor: 1, Cap: 0}, {Tries: 1, Base: 1<<30 + 1, Factor: 1, Cap: 1<<30 + 1}, {Tries: 1, Base: 0, Factor: 0, Cap: 0}, {Tries: 1, Base: 0, Factor: 17, Cap: 0}, {Tries: 1, Base: 0, Factor: 1, Cap: api.MaxTick + 1}, {Tries: 1, Base: 7, Factor: 1, Cap: 6},
		{Tries: 0, Base: 0, Factor: 0, Cap: 1}, {Tries: 0, Base: 1, Factor: 0, Cap: 1}, {Tries: api.MaxInt, Base: api.MaxInt, Factor: api.MaxInt, Cap: api.MaxInt},
	} {
		wantNotOne(t, text(p), api.Fault{At: 11, Code: api.ErrPolicy})
		wantNoSet(t, text(p), api.Fault{At: 11, Code: api.ErrPolicy})
		wantSetNotPrinted(t, api.Fault{At: 0, Code: api.ErrPolicy}, api.Provider{Name: "a", Expr: ops("1"), Policy: p})
	}
}

// 6.2: wrong ones.

// some are operations of many kinds, right and wrong ones.
var some = append(ops("1 'x a $x list:0 list:1 list:2 + item size if try fail gate:g let:x"),
	api.Op{}, api.Op{Kind: api.XList, N: -1}, api.Op{Kind: api.XName}, api.Op{Kind: api.XName, Text: "if"}, api.Op{Kind: api.XAdd, N: 1}, api.Op{Kind: api.XSize, N: 1, Text: "a"},
	api.Op{Kind: api.XInt, Int: api.MaxInt + 1}, api.Op{Kind: api.XLet + 1, N: 1}, api.Op{Kind: api.XGate, N: 1, Text: "A"}, api.Op{Kind: api.XText, Int: 1}, api.Op{Kind: -1},
)

func TestPrintsNoWrongExpr(t *testing.T) {
	var walk func(e api.Expr)
	wrong := 0
	walk = func(e api.Expr) {
		if want := names.Check(e); want != api.OK {
			wrong++
			wantNotPrinted(t, e, want)
			wantSetNotPrinted(t, api.Fault{At: 1, Code: want}, api.Provider{Name: "b", Expr: ops("1")}, api.Provider{Name: "a", Expr: e})
		} else if _, code := grammar.PrintExpr(e); code != api.OK {
			t.Errorf("PrintExpr(%v): %v", e, code)
		}
		if len(e) == 3 {
			return
		}
		for _, o := range some {
			walk(append(slices.Clone(e), o))
		}
	}
	walk(nil)
	if wrong == 0 {
		t.Error("none was wrong")
	}
	wantNotPrinted(t, nil, api.ErrShape)
	wantNotPrinted(t, ops("$x"), api.ErrShape)
	wantNotPrinted(t, ops("1 2"), api.ErrShape)
	wantNotPrinted(t, make(api.Expr, api.MaxOps+1), api.ErrLong)
	wantNotPrinted(t, make(api.Expr, api.MaxOps), api.ErrShape)
	wantNotPrinted(t, api.Expr{{Kind: api.XText, Text: strings.Repeat("a", api.MaxWord+1)}}, api.ErrLong)
	// A wrong one is told ahead of a long text.
	wantNotPrinted(t, append(slices.Repeat(api.Expr{{Kind: api.XText, Text: strings.Repeat("a", api.MaxWord)}}, 20), op("size")), api.ErrShape)
}

func TestPrintsNoWrongSet(t *testing.T) {
	good := api.Provider{Name: "a", Expr: ops("1")}
	for _, c := range []struct {
		p    api.Provider
		code api.Errno
	}{
		{api.Provider{}, api.ErrForm}, {api.Provider{Expr: ops("1")}, api.ErrForm}, {api.Provider{Name: "A", Expr: ops("1")}, api.ErrForm}, {api.Provider{Name: "cell", Expr: ops("1")}, api.ErrForm}, {api.Provider{Name: "z" + longName, Expr: ops("1")}, api.ErrForm},
		{api.Provider{Name: "b"}, api.ErrShape}, {api.Provider{Name: "b", Expr: ops("$x")}, api.ErrShape},
		{api.Provider{Name: "b", Expr: ops("1"), Policy: api.Policy{Tries: -1}}, api.ErrPolicy},
		{api.Provider{Name: "b", Expr: ops("1"), Closer: api.Closer{Kind: -1}}, api.ErrCloser}, {api.Provider{Name: "b", Expr: ops("1"), Closer: api.Closer{Kind: api.ClosePanic + 1}}, api.ErrCloser},
		{api.Provider{Name: "b", Expr: ops("1"), Closer: api.Closer{Kind: api.CloseNone, Text: "a"}}, api.ErrCloser}, {api.Provider{Name: "b", Expr: ops("1"), Closer: api.Closer{Kind: api.CloseFine, Text: "a"}}, api.ErrCloser},
		{api.Provider{Name: "b", Expr: ops("1"), Closer: api.Closer{Kind: api.CloseFail, Text: strings.Repeat("a", api.MaxWord+1)}}, api.ErrLong},
		{good, api.ErrTwice},
	} {
		wantSetNotPrinted(t, api.Fault{At: 1, Code: c.code}, good, c.p)
		wantSetNotPrinted(t, api.Fault{At: 2, Code: c.code}, good, api.Provider{Name: "c", Expr: ops("2")}, c.p)
		// A wrong one is told ahead of a long text.
		wantSetNotPrinted(t, api.Fault{At: 2, Code: c.code}, good, api.Provider{Name: "c", Expr: longList(api.MaxText + 1)}, c.p)
	}
	wantSetNotPrinted(t, api.Fault{Code: api.ErrLong}, make([]api.Provider, api.MaxCells+1)...)
	wantSetNotPrinted(t, api.Fault{Code: api.ErrLong}, make([]api.Provider, api.MaxItems+1)...)
	wantSetNotPrinted(t, api.Fault{Code: api.ErrForm}, make([]api.Provider, api.MaxCells)...)
}

// longList is an expression whose text has so many bytes: a list of texts that stand for themselves.
func longList(bytes int) api.Expr {
	var e api.Expr
	for left := bytes; left > 0; {
		// Each text costs its quotes, and the comma and the blank ahead of it; the first one has none, but there are the list's two brackets.
		size := min(left-4, api.MaxWord)
		if left-4-size > 0 && left-4-size < 4 {
			size -= 4
		}
		e = append(e, api.Op{Kind: api.XText, Text: strings.Repeat("a", size)})
		left -= size + 4
	}
	return append(e, api.Op{Kind: api.XList, N: len(e)})
}

func TestLongTexts(t *testing.T) {
	e := longList(api.MaxText)
	s, code := grammar.PrintExpr(e)
	if code != api.OK || len(s) != api.MaxText {
		t.Fatalf("the test's own expression is off: %d bytes, %v", len(s), code)
	}
	wantExpr(t, s, e)
	wantNotPrinted(t, longList(api.MaxText+1), api.ErrLong)
	// A part alone that is as long, or longer.
	wantNotPrinted(t, append(slices.Clone(e), op("size")), api.ErrLong)
	wantNotPrinted(t, append(longList(api.MaxText+1), op("size")), api.ErrLong)
	wantNotPrinted(t, append(append(slices.Clone(e), e...), op("+")), api.ErrLong)
	// Bytes that are written as four.
	full := strings.Repeat("\x00", api.MaxWord)
	wantNotPrinted(t, append(slices.Repeat(api.Expr{{Kind: api.XText, Text: full}}, api.MaxOps-1), api.Op{Kind: api.XList, N: api.MaxOps - 1}), api.ErrLong)
	wantPrinted(t, api.Expr{{Kind: api.XText, Text: full}}, `"`+strings.Repeat(`\x00`, api.MaxWord)+`"`)
}

func TestLongSets(t *testing.T) {
	a := api.Provider{Name: "a", Expr: ops("1"), Again: true}
	rest := api.MaxText - len("cell a = 1 again;\n")
	b := api.Provider{Name: "b", Expr: longList(rest - len("cell b = ;\n"))}
	s, fault := grammar.Print([]api.Provider{a, b})
	if fault != fine || len(s) != api.MaxText {
		t.Fatalf("the test's own set is off: %d bytes, %v", len(s), fault)
	}
	wantSet(t, s, a, b)
	b.Expr = longList(rest - len("cell b = ;\n") + 1)
	wantSetNotPrinted(t, api.Fault{Code: api.ErrLong}, a, b)
	wantSetNotPrinted(t, api.Fault{Code: api.ErrLong}, b, a)
	b.Expr = longList(api.MaxText - len("cell b = ;\n"))
	s, _ = grammar.Print([]api.Provider{b})
	wantSet(t, s, b)
	b.Expr = longList(api.MaxText - len("cell b = ;\n") + 1)
	wantSetNotPrinted(t, api.Fault{Code: api.ErrLong}, b)
	// As long as a set can be at all.
	full := append(slices.Repeat(api.Expr{{Kind: api.XText, Text: strings.Repeat("\x00", api.MaxWord)}}, api.MaxOps-1), api.Op{Kind: api.XList, N: api.MaxOps - 1})
	var l []api.Provider
	for i := range api.MaxCells {
		l = append(l, api.Provider{Name: "a" + strconv.Itoa(i), Expr: full, Closer: api.Closer{Kind: api.ClosePanic, Text: full[0].Text}})
	}
	wantSetNotPrinted(t, api.Fault{Code: api.ErrLong}, l...)
}

// R3

func TestAnswersAreNewMemory(t *testing.T) {
	s := "cell a = [1, 2]; cell b = 3; cell c = [4, 5]; cell d = [6, 7, 8, 9]; cell e = 0;"
	want := []api.Provider{{Name: "a", Expr: ops("1 2 list:2")}, {Name: "b", Expr: ops("3")}, {Name: "c", Expr: ops("4 5 list:2")}, {Name: "d", Expr: ops("6 7 8 9 list:4")}, {Name: "e", Expr: ops("0")}}
	for i := range want {
		l, _ := grammar.Read(s)
		// Into the spare room too.
		room := l[i].Expr[:cap(l[i].Expr)]
		for k := range room {
			room[k] = op("z")
		}
		l[i] = want[i]
		if !reflect.DeepEqual(l, want) {
			t.Errorf("two lists of one answer share memory: %v", l)
		}
		wantSet(t, s, want...)
	}
}

func TestArgumentsAreLeft(t *testing.T) {
	room := ops("1 2 + a list:2 size z z z z")
	kept := slices.Clone(room)
	wantPrinted(t, room[:6], "size([1 + 2, a])")
	set := []api.Provider{{Name: "a", Expr: room[:1]}, {Name: "b", Expr: room[:3]}, {Name: "c"}}
	wantSetPrinted(t, "cell a = 1;\ncell b = 1 + 2;\n", set[:2]...)
	if !slices.Equal(room, kept) || !reflect.DeepEqual(set, []api.Provider{{Name: "a", Expr: kept[:1]}, {Name: "b", Expr: kept[:3]}, {Name: "c"}}) {
		t.Errorf("what was handed in was changed: %v, %v", room, set)
	}
}
