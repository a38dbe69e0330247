package names_test

import (
	"fmt"
	"math"
	"slices"
	"strconv"
	"strings"
	"testing"

	"onceweb/api"
	"onceweb/names"
)

// byWord is the kinds of operations that are written as a word alone, and how many parts they have.
var byWord = map[string]api.Op{
	"+": {Kind: api.XAdd, N: 2}, "-": {Kind: api.XSub, N: 2}, "*": {Kind: api.XMul, N: 2}, "&": {Kind: api.XJoin, N: 2}, "item": {Kind: api.XItem, N: 2},
	"size": {Kind: api.XSize, N: 1}, "<": {Kind: api.XLess, N: 2}, "==": {Kind: api.XSame, N: 2}, "if": {Kind: api.XIf, N: 3}, "try": {Kind: api.XTry, N: 2},
	"fail": {Kind: api.XFail, N: 1}, "panic": {Kind: api.XPanic, N: 1},
}

// op is one operation as these tests write it: 12, 'text, $local, list:2, gate:g, let:x, a word of byWord; else it is a name.
func op(s string) api.Op {
	if o, ok := byWord[s]; ok {
		return o
	}
	if n, err := strconv.Atoi(s); err == nil {
		return api.Op{Kind: api.XInt, Int: n}
	}
	switch before, after, _ := strings.Cut(s, ":"); {
	case s[0] == '\'':
		return api.Op{Kind: api.XText, Text: s[1:]}
	case s[0] == '$':
		return api.Op{Kind: api.XLocal, Text: s[1:]}
	case before == "list":
		n, _ := strconv.Atoi(after)
		return api.Op{Kind: api.XList, N: n}
	case before == "gate":
		return api.Op{Kind: api.XGate, N: 1, Text: after}
	case before == "let":
		return api.Op{Kind: api.XLet, N: 2, Text: after}
	}
	return api.Op{Kind: api.XName, Text: s}
}

// ops is operations with blanks between them.
func ops(s string) api.Expr {
	var e api.Expr
	for _, word := range strings.Fields(s) {
		e = append(e, op(word))
	}
	return e
}

// behind is the operations of s, and some more behind them.
func behind(s string, more ...api.Op) api.Expr { return append(ops(s), more...) }

// nest is an expression of that depth: the operation, each time around the one ahead of it and as many noughts as it needs.
func nest(depth int, word string) api.Expr {
	o := op(word)
	e := ops("0")
	for range depth - 1 {
		for range o.N - 1 {
			e = append(e, op("0"))
		}
		e = append(e, o)
	}
	return e
}

// nestLast is as nest, but the deep part is the last one.
func nestLast(depth int, word string) api.Expr {
	o := op(word)
	var e api.Expr
	for range (depth - 1) * (o.N - 1) {
		e = append(e, op("0"))
	}
	e = append(e, op("0"))
	for range depth - 1 {
		e = append(e, o)
	}
	return e
}

// broad is a list of so many operations in all.
func broad(size int) api.Expr {
	return append(slices.Repeat(ops("0"), size-1), api.Op{Kind: api.XList, N: size - 1})
}

var (
	longName = strings.Repeat("z", api.MaxName)
	longText = strings.Repeat("\x00", api.MaxWord)
	keywords = strings.Fields("cell again tries base factor cap close fine fail panic if then else try wait let in item size")
	noNames  = append([]string{"", "A", "_a", "1", "1a", "a b", "a ", " a", "$a", "a-b", "é", "a\x00", longName + "z", strings.Repeat("a", api.MaxWord+1)}, keywords...)
	noInts   = []int{api.MaxInt + 1, -api.MaxInt - 1, math.MaxInt, math.MinInt}
	noKinds  = []int{math.MinInt, -1, 0, api.XLet + 1, 100, math.MaxInt}
)

// right are expressions that are right, of every kind of operation and at every limit.
var right = []api.Expr{
	ops("0"), ops("12"), ops("-12"), ops("a"), ops("'"), ops("'a"), ops("'$A"), ops("list:0"),
	{{Kind: api.XInt, Int: api.MaxInt}}, {{Kind: api.XInt, Int: -api.MaxInt}}, {{Kind: api.XInt, Int: api.MaxInt - 1}},
	{{Kind: api.XText, Text: longText}}, {{Kind: api.XText, Text: "cell \"\n\xff"}},
	ops(longName), ops("x_1"), ops("a0"), ops("cells"), ops("0 gate:" + longName), ops("0 $" + longName + " let:" + longName),
	ops("1 list:1"), ops("1 'a b list:3"), ops("list:0 list:1 list:0 list:2"),
	ops("1 a +"), ops("a b -"), ops("a 2 *"), ops("'a 'b &"), ops("a 0 item"), ops("'a size"), ops("a b <"), ops("a b =="), ops("a b c if"), ops("a b try"),
	ops("'no fail"), ops("'oh panic"), ops("1 gate:g"), ops("1 2 let:x"),
	ops("a b + c * d - size"), ops("a b c d + * -"), ops("a b c if d e f if g h i if if"), ops("a b try c d try try"),
	// Locals that are bound.
	ops("1 $x let:x"), ops("1 $x $x + let:x"), ops("a $x b + let:x"), ops("1 $x gate:g size fail let:x"), ops("1 a $x $x if $x try let:x"),
	ops("1 $x 2 let:y let:x"), ops("1 2 $x let:y let:x"), ops("1 2 $x $y + let:y let:x"), ops("1 $x $y let:y let:x"),
	ops("1 $x $x let:x let:x"), ops("1 $x 2 let:x let:x"), ops("1 2 $x let:x let:x"), ops("1 2 3 $x let:x let:x let:x"),
	ops("1 $x let:x 2 $x let:x +"), ops("1 $x let:x $y let:y"), ops("1 $x let:x 2 $x let:x let:x"),
	ops("1 $x $y let:y $x list:2 let:x"), ops("0 1 $x let:x list:2"),
	// As many operations as may be.
	broad(api.MaxOps), broad(2), append(broad(api.MaxOps-1), op("size")),
	// As deep as may be.
	nest(api.MaxNest, "size"), nest(api.MaxNest, "gate:g"), nest(api.MaxNest, "+"), nestLast(api.MaxNest, "+"), nest(api.MaxNest, "if"), nestLast(api.MaxNest, "if"),
	nest(api.MaxNest, "let:x"), nestLast(api.MaxNest, "let:x"), nest(api.MaxNest, "list:1"), nest(api.MaxNest, "try"), nest(api.MaxNest, "list:8"), nestLast(api.MaxNest, "list:8"),
	append(append(nest(api.MaxNest-1, "size"), nest(api.MaxNest-1, "size")...), op("+")),
}

// wrong are lists of at most MaxOps operations that are no expressions.
var wrong = []api.Expr{
	nil, {},
	// Parts that are too few.
	ops("size"), ops("+"), ops("1 +"), ops("1 2 if"), ops("if"), ops("1 try"), ops("try"), ops("fail"), ops("panic"), ops("gate:g"), ops("let:x"), ops("1 let:x"), ops("$x let:x"),
	ops("list:1"), ops("1 list:2"), ops("1 2 list:3"), ops("+ 1 2"), ops("1 + 2"), ops("1 2 + +"), ops("1 size 2 if"), ops("size 1"), ops("1 2 * +"),
	// Wholes that are left.
	ops("1 2"), ops("1 a"), ops("1 2 size"), ops("1 2 3 +"), ops("1 2 3 4 if"), ops("1 list:0"), ops("1 2 3 list:2"), ops("1 2 + 3"), slices.Repeat(ops("0"), api.MaxOps),
	// Locals that are not bound.
	ops("$x"), ops("$x size"), ops("1 $y let:x"), ops("$x 1 let:x"), ops("$x $x let:x"), ops("1 $x let:x $x +"), ops("$x 1 $x let:x +"), ops("1 $x + 2 let:x"),
	ops("1 $x $y + let:x"), ops("1 $y $x let:y let:x"), ops("$x $x let:x $x let:x"), ops("$y 1 $x let:x let:y"), ops("$x 1 2 let:x let:x"), ops("1 $x let:x $x $x let:x +"),
	ops("1 2 let:x $x list:2"), ops("$x gate:x"), ops("x $x +"), ops("1 $xx let:x"), ops("1 $x let:xx"), ops("$x 1 2 let:x +"), ops("$x list:1 1 let:x"),
	// An N that the kind may not have.
	ops("list:-1"), ops("1 list:-1"), ops("1 2 list:-1"), behind("1", api.Op{Kind: api.XList, N: math.MaxInt}), behind("1", api.Op{Kind: api.XList, N: math.MinInt}),
	behind("1 2", api.Op{Kind: api.XIf, N: 2}), behind("1 2 3 4", api.Op{Kind: api.XIf, N: 4}), behind("1", api.Op{Kind: api.XAdd, N: 1}), behind("1 2 3", api.Op{Kind: api.XAdd, N: 3}),
	behind("1 2", api.Op{Kind: api.XSize, N: 2}), behind("1", api.Op{Kind: api.XAdd, N: math.MinInt}), behind("1", api.Op{Kind: api.XSize, N: math.MaxInt}),
	// An Int that the kind may not have.
	behind("1", api.Op{Kind: api.XList, N: 1, Int: 1}), behind("", api.Op{Kind: api.XText, Int: 1}), behind("", api.Op{Kind: api.XName, Text: "a", Int: -1}),
	// A Text that the kind may not have.
	behind("", api.Op{Kind: api.XInt, Text: "a"}), behind("", api.Op{Kind: api.XList, Text: "a"}), behind("1", api.Op{Kind: api.XSize, N: 1, Text: longText + "a"}), behind("", api.Op{Kind: api.XInt, Text: longText + "a"}),
}

// oneOfEach is an operation of each kind behind its parts, at the kind's place.
var oneOfEach = []api.Expr{
	api.XInt: ops("1"), api.XText: ops("'a"), api.XName: ops("a"), api.XLocal: ops("$x"), api.XList: ops("1 2 list:2"),
	api.XAdd: ops("1 2 +"), api.XSub: ops("1 2 -"), api.XMul: ops("1 2 *"), api.XJoin: ops("1 2 &"), api.XItem: ops("1 2 item"), api.XSize: ops("1 size"), api.XLess: ops("1 2 <"), api.XSame: ops("1 2 =="),
	api.XIf: ops("1 2 3 if"), api.XTry: ops("1 2 try"), api.XFail: ops("1 fail"), api.XPanic: ops("1 panic"), api.XGate: ops("1 gate:g"), api.XLet: ops("1 2 let:x"),
}

// bound is e as the second part of an XLet of x.
func bound(e api.Expr) api.Expr { return append(append(ops("0"), e...), op("let:x")) }

// noExprs calls f with each expression that is none, and with its error.
func noExprs(f func(e api.Expr, code api.Errno)) {
	for _, e := range wrong {
		f(e, api.ErrShape)
	}
	for _, kind := range noKinds {
		f(api.Expr{{Kind: kind}}, api.ErrShape)
		f(behind("1", api.Op{Kind: kind, N: 1}), api.ErrShape)
	}
	for _, e := range oneOfEach[api.XInt:] {
		spoilt(e, func(w api.Expr) { f(bound(w), api.ErrShape) })
	}
	for _, n := range noInts {
		f(api.Expr{{Kind: api.XInt, Int: n}}, api.ErrShape)
	}
	for _, s := range noNames {
		f(api.Expr{{Kind: api.XName, Text: s}}, api.ErrShape)
		f(behind("1", api.Op{Kind: api.XGate, N: 1, Text: s}), api.ErrShape)
		f(behind("1 2", api.Op{Kind: api.XLet, N: 2, Text: s}), api.ErrShape)
		f(behind("1", api.Op{Kind: api.XLocal, Text: s}, api.Op{Kind: api.XLet, N: 2, Text: s}), api.ErrShape)
	}
	for _, w := range tooLong {
		f(w, api.ErrLong)
	}
	for _, w := range twiceWrong {
		f(w.e, w.code)
	}
}

// spoilt calls f with e once for each thing by which its last operation is none.
func spoilt(e api.Expr, f func(w api.Expr)) {
	kind := e[len(e)-1].Kind
	change := func(by func(o *api.Op)) {
		w := slices.Clone(e)
		by(&w[len(w)-1])
		f(w)
	}
	change(func(o *api.Op) { o.N++ })
	change(func(o *api.Op) { o.N-- })
	change(func(o *api.Op) { o.N = -1 })
	if kind != api.XInt {
		change(func(o *api.Op) { o.Int = 1 })
		change(func(o *api.Op) { o.Int = -1 })
	}
	switch kind {
	case api.XText:
	case api.XName, api.XLocal, api.XGate, api.XLet:
		change(func(o *api.Op) { o.Text = "" })
		change(func(o *api.Op) { o.Text = "A" })
	default:
		change(func(o *api.Op) { o.Text = "a" })
	}
}

// tooLong are expressions that are wrong by a limit alone.
var tooLong = []api.Expr{
	broad(api.MaxOps + 1), append(broad(api.MaxOps), op("size")), broad(5000),
	{{Kind: api.XText, Text: longText + "a"}}, behind("1", api.Op{Kind: api.XText, Text: longText + longText}, op("&")),
	nest(api.MaxNest+1, "size"), nest(api.MaxNest+1, "gate:g"), nest(api.MaxNest+1, "+"), nestLast(api.MaxNest+1, "+"), nest(api.MaxNest+1, "if"), nestLast(api.MaxNest+1, "if"),
	nest(api.MaxNest+1, "let:x"), nestLast(api.MaxNest+1, "let:x"), nest(api.MaxNest+1, "list:1"), nestLast(api.MaxNest+1, "try"), nest(api.MaxOps, "size"),
	append(nest(api.MaxNest, "size"), ops("0 0 if")...), append(append(ops("0"), nest(api.MaxNest, "size")...), ops("0 if")...), append(append(ops("0 0"), nest(api.MaxNest, "size")...), op("if")),
}

// twiceWrong are expressions of which more than one thing is wrong, and the one that is told.
var twiceWrong = []struct {
	e    api.Expr
	code api.Errno
}{
	// How many there are comes first, whatever they are.
	{make(api.Expr, api.MaxOps+1), api.ErrLong},
	{make(api.Expr, api.MaxOps), api.ErrShape},
	{slices.Repeat(ops("0"), api.MaxOps+1), api.ErrLong},
	{slices.Repeat(ops("+"), api.MaxOps+1), api.ErrLong},
	{slices.Repeat(api.Expr{{Kind: -1, N: -1, Int: 1, Text: "A"}}, 5000), api.ErrLong},
	{bound(append(broad(api.MaxOps), ops("$y +")...)), api.ErrLong},
	// A wrong shape, wherever it is, comes ahead of depth and long texts.
	{append(nest(api.MaxNest+1, "size"), op("0")), api.ErrShape},
	{append(nest(api.MaxNest+1, "size"), op("+")), api.ErrShape},
	{append(nest(api.MaxNest+1, "size"), ops("$x +")...), api.ErrShape},
	{append(nest(api.MaxNest+1, "size"), behind("", api.Op{Kind: api.XInt, Int: api.MaxInt + 1}, op("+"))...), api.ErrShape},
	{append(nest(api.MaxNest+1, "size"), behind("", api.Op{Kind: api.XName}, op("+"))...), api.ErrShape},
	{append(ops("$x"), nest(api.MaxNest+1, "size")[1:]...), api.ErrShape},
	{api.Expr{{Kind: api.XText, Text: longText + "a"}, op("0")}, api.ErrShape},
	{api.Expr{{Kind: api.XText, Text: longText + "a"}, op("$x"), op("&")}, api.ErrShape},
	{api.Expr{{Kind: api.XText, Text: longText + "a"}, {Kind: api.XName, Text: "A"}, op("&")}, api.ErrShape},
	{api.Expr{{Kind: api.XText, Text: longText + "a", Int: 1}}, api.ErrShape},
	{api.Expr{{Kind: api.XText, Text: longText + "a", N: 1}}, api.ErrShape},
	{append(api.Expr{{Kind: api.XText, Text: longText + "a"}}, nest(api.MaxNest+1, "size")[1:]...), api.ErrLong},
}

// brief is the beginning of what v is told as: some expressions are very long.
func brief(v any) string {
	s := fmt.Sprint(v)
	return s[:min(len(s), 200)]
}

func wantCode(t *testing.T, what string, got, want api.Errno) {
	t.Helper()
	if got != want {
		t.Errorf("%s: %v, want %v", what, got, want)
	}
}

func wantFault(t *testing.T, what string, got, want api.Fault) {
	t.Helper()
	if got != want {
		t.Errorf("%s: %v, want %v", what, got, want)
	}
}

// wantNames asks for names, which want has with blanks between them.
func wantNames(t *testing.T, what string, got []string, want string) {
	t.Helper()
	if !slices.Equal(got, strings.Fields(want)) {
		t.Errorf("%s: %s, want %s", what, brief(got), brief(want))
	}
}

// 5.1: expressions

func TestCheckOfRightOnes(t *testing.T) {
	for _, e := range right {
		wantCode(t, "Check of "+brief(e), names.Check(e), api.OK)
	}
	for _, e := range oneOfEach[api.XInt:] {
		wantCode(t, "Check of "+brief(e), names.Check(bound(e)), api.OK)
	}
}

func TestCheckOfWrongOnes(t *testing.T) {
	noExprs(func(e api.Expr, code api.Errno) { wantCode(t, "Check of "+brief(e), names.Check(e), code) })
}

func TestParts(t *testing.T) {
	for _, c := range []struct {
		e    string
		want [][]int
	}{
		{"1", [][]int{nil}},
		{"list:0", [][]int{nil}},
		{"a b c + c if", [][]int{nil, nil, nil, {1, 2}, nil, {0, 3, 4}}},
		{"1 $x let:x", [][]int{nil, nil, {0, 1}}},
		{"a size gate:g size list:1", [][]int{nil, {0}, {1}, {2}, {3}}},
		{"list:0 1 2 + list:0 a 'b list:3 list:3", [][]int{nil, nil, nil, {1, 2}, nil, nil, nil, {4, 5, 6}, {0, 3, 7}}},
		{"a b try c d try try", [][]int{nil, nil, {0, 1}, nil, nil, {3, 4}, {2, 5}}},
		{"a b c d + * -", [][]int{nil, nil, nil, nil, {2, 3}, {1, 4}, {0, 5}}},
		{"a b + c * d -", [][]int{nil, nil, {0, 1}, nil, {2, 3}, nil, {4, 5}}},
	} {
		for at, w := range c.want {
			if l, code := names.Parts(ops(c.e), at); code != api.OK || !slices.Equal(l, w) {
				t.Errorf("Parts(%s, %d): %v, %v; want %v", c.e, at, l, code, w)
			}
		}
	}
	l, code := names.Parts(broad(api.MaxOps), api.MaxOps-1)
	if code != api.OK || len(l) != api.MaxOps-1 || l[0] != 0 || !slices.IsSorted(l) || l[len(l)-1] != api.MaxOps-2 {
		t.Errorf("Parts of many: %v, %v", l, code)
	}
}

func TestPartsOfWrongOnes(t *testing.T) {
	for _, e := range right {
		for _, at := range []int{-1, len(e), len(e) + 1, math.MinInt, math.MaxInt} {
			if l, code := names.Parts(e, at); len(l) != 0 || code != api.ErrRange {
				t.Errorf("Parts(%s, %d): %v, %v", brief(e), at, l, code)
			}
		}
	}
	noExprs(func(e api.Expr, want api.Errno) {
		for _, at := range []int{-1, 0, len(e) - 1, len(e)} {
			if l, code := names.Parts(e, at); len(l) != 0 || code != want {
				t.Errorf("Parts(%s, %d): %v, %v; want %v", brief(e), at, l, code, want)
			}
		}
	})
}

// 5.1: providers

// plain is a provider of that name, and of nothing that could be wrong.
func plain(name string) api.Provider { return api.Provider{Name: name, Expr: ops("1")} }

func withPolicy(tries, base, factor, most int) api.Provider {
	p := plain("a")
	p.Policy = api.Policy{Tries: tries, Base: base, Factor: factor, Cap: most}
	return p
}

func withCloser(kind int, text string) api.Provider {
	p := plain("a")
	p.Closer = api.Closer{Kind: kind, Text: text}
	return p
}

var rightProviders = []api.Provider{
	plain("a"), plain(longName), plain("x_1"), plain("cells"), {Name: "a", Expr: ops("a"), Again: true},
	withPolicy(0, 0, 0, 0), withPolicy(1, 0, 1, 0), withPolicy(64, 1<<30, 16, api.MaxTick), withPolicy(3, 10, 2, 100),
	withPolicy(1, 1<<30, 1, 1<<30), withPolicy(64, 0, 16, 0), withPolicy(2, 7, 3, 7), withPolicy(2, 7, 3, api.MaxTick), withPolicy(63, 1<<30-1, 15, api.MaxTick-1),
	withCloser(api.CloseNone, ""), withCloser(api.CloseFine, ""), withCloser(api.CloseFail, ""), withCloser(api.ClosePanic, ""),
	withCloser(api.CloseFail, "no"), withCloser(api.ClosePanic, "oh"), withCloser(api.CloseFail, longText), withCloser(api.ClosePanic, longText),
	{Name: "a", Expr: ops("b 1 +"), Again: true, Policy: api.Policy{Tries: 3, Base: 1, Factor: 2, Cap: 10}, Closer: api.Closer{Kind: api.CloseFail, Text: "no"}},
}

var noPolicies = []api.Provider{
	withPolicy(1, 0, 0, 0), withPolicy(0, 1, 0, 0), withPolicy(0, 0, 1, 0), withPolicy(0, 0, 0, 1), withPolicy(0, 0, 1, 1), withPolicy(0, 1, 1, 1),
	withPolicy(0, 10, 2, 100), withPolicy(-1, 10, 2, 100), withPolicy(65, 10, 2, 100), withPolicy(math.MinInt, 10, 2, 100), withPolicy(math.MaxInt, 10, 2, 100),
	withPolicy(3, -1, 2, 100), withPolicy(3, 1<<30+1, 2, api.MaxTick), withPolicy(3, math.MinInt, 2, 100), withPolicy(3, math.MaxInt, 2, math.MaxInt), withPolicy(3, -1, 2, -1),
	withPolicy(3, 10, 0, 100), withPolicy(3, 10, -1, 100), withPolicy(3, 10, 17, 100), withPolicy(3, 10, math.MinInt, 100), withPolicy(3, 10, math.MaxInt, 100),
	withPolicy(3, 10, 2, 9), withPolicy(3, 10, 2, 0), withPolicy(3, 0, 2, -1), withPolicy(3, 10, 2, api.MaxTick+1), withPolicy(3, 10, 2, math.MinInt), withPolicy(3, 10, 2, math.MaxInt),
}

var noClosers = []api.Provider{
	withCloser(api.CloseNone, "a"), withCloser(api.CloseFine, "a"), withCloser(api.CloseNone, " "), withCloser(api.CloseFine, longText),
	withCloser(api.CloseNone, longText+"a"), withCloser(api.CloseFine, longText+"a"),
	withCloser(api.CloseNone-1, ""), withCloser(api.ClosePanic+1, ""), withCloser(-1, "a"), withCloser(4, longText+"a"), withCloser(math.MinInt, ""), withCloser(math.MaxInt, "a"),
}

var longClosers = []api.Provider{withCloser(api.CloseFail, longText+"a"), withCloser(api.ClosePanic, longText+"a"), withCloser(api.ClosePanic, longText+longText)}

// noProviders calls f with each provider that is none, and with its error.
func noProviders(f func(p api.Provider, code api.Errno)) {
	for _, s := range noNames {
		f(plain(s), api.ErrForm)
		f(api.Provider{Name: s, Policy: api.Policy{Tries: -1}, Closer: api.Closer{Kind: -1}}, api.ErrForm)
		f(api.Provider{Name: s, Expr: broad(api.MaxOps + 1)}, api.ErrForm)
	}
	noExprs(func(e api.Expr, code api.Errno) {
		f(api.Provider{Name: "a", Expr: e}, code)
		f(api.Provider{Name: "a", Expr: e, Policy: api.Policy{Tries: -1}, Closer: api.Closer{Kind: -1}}, code)
	})
	for _, p := range noPolicies {
		f(p, api.ErrPolicy)
		for _, c := range append(slices.Clone(noClosers), longClosers...) {
			p.Closer = c.Closer
			f(p, api.ErrPolicy)
		}
	}
	for _, p := range noClosers {
		f(p, api.ErrCloser)
	}
	for _, p := range longClosers {
		f(p, api.ErrLong)
	}
}

func TestCheckProviderOfRightOnes(t *testing.T) {
	for _, p := range rightProviders {
		wantCode(t, "CheckProvider of "+brief(p), names.CheckProvider(p), api.OK)
	}
	for _, e := range right {
		wantCode(t, "CheckProvider of "+brief(e), names.CheckProvider(api.Provider{Name: "a", Expr: e}), api.OK)
	}
}

func TestCheckProviderOfWrongOnes(t *testing.T) {
	noProviders(func(p api.Provider, code api.Errno) {
		wantCode(t, "CheckProvider of "+brief(p), names.CheckProvider(p), code)
	})
}

// 5.1: sets

// many is so many providers, none of one name.
func many(n int) []api.Provider {
	l := make([]api.Provider, n)
	for i := range l {
		l[i] = plain("p" + strconv.Itoa(i))
	}
	return l
}

func TestCheckSetOfRightOnes(t *testing.T) {
	for _, l := range [][]api.Provider{nil, {}, many(1), many(2), many(api.MaxCells), lines("a a", "b c", "c b")} {
		wantFault(t, "CheckSet of "+brief(l), names.CheckSet(l), api.Fault{})
	}
	for _, p := range rightProviders {
		wantFault(t, "CheckSet of "+brief(p), names.CheckSet([]api.Provider{plain("b"), p}), api.Fault{})
	}
}

// noSets calls f with each list that is no set, and with its fault.
func noSets(f func(l []api.Provider, want api.Fault)) {
	f(many(api.MaxCells+1), api.Fault{Code: api.ErrLong})
	f(many(5000), api.Fault{Code: api.ErrLong})
	f(make([]api.Provider, api.MaxCells+1), api.Fault{Code: api.ErrLong})
	f(slices.Repeat(many(1), api.MaxCells+1), api.Fault{Code: api.ErrLong})
	f(make([]api.Provider, api.MaxCells), api.Fault{Code: api.ErrForm})
	noProviders(func(p api.Provider, code api.Errno) {
		for at := range 3 {
			f(slices.Insert(many(2), at, p), api.Fault{At: at, Code: code})
		}
	})
	last := many(api.MaxCells)
	last[api.MaxCells-1] = withPolicy(1, 0, 0, 0)
	f(last, api.Fault{At: api.MaxCells - 1, Code: api.ErrPolicy})
	last[3] = withCloser(9, "")
	f(last, api.Fault{At: 3, Code: api.ErrCloser})

	a, b, c := plain("a"), plain("b"), api.Provider{Name: "a", Expr: ops("b"), Again: true}
	f([]api.Provider{a, a}, api.Fault{At: 1, Code: api.ErrTwice})
	f([]api.Provider{a, b, c}, api.Fault{At: 2, Code: api.ErrTwice})
	f([]api.Provider{b, a, a, b}, api.Fault{At: 2, Code: api.ErrTwice})
	f([]api.Provider{b, a, b, a}, api.Fault{At: 2, Code: api.ErrTwice})
	f([]api.Provider{a, a, a}, api.Fault{At: 1, Code: api.ErrTwice})
	f(append(many(api.MaxCells-1), plain("p0")), api.Fault{At: api.MaxCells - 1, Code: api.ErrTwice})
	f(append(many(api.MaxCells), plain("p0")), api.Fault{Code: api.ErrLong})
	// One that is wrong comes ahead of one that is there twice, also if it stands behind it.
	f([]api.Provider{a, a, plain("A")}, api.Fault{At: 2, Code: api.ErrForm})
	f([]api.Provider{a, a, b, {Name: "a"}, withPolicy(1, 0, 0, 0)}, api.Fault{At: 3, Code: api.ErrShape})
	f([]api.Provider{{}, {}}, api.Fault{At: 0, Code: api.ErrForm})
}

func TestCheckSetOfWrongOnes(t *testing.T) {
	noSets(func(l []api.Provider, want api.Fault) { wantFault(t, "CheckSet of "+brief(l), names.CheckSet(l), want) })
}

// 5.2

// asking are expressions, and what they ask for, surely ask for, and stand at.
var asking = []struct{ e, asked, sure, gates string }{
	{"1", "", "", ""},
	{"'a", "", "", ""},
	{"list:0", "", "", ""},
	{"1 $a let:a", "", "", ""},
	{"a", "a", "a", ""},
	{"b a c list:3", "b a c", "b a c", ""},
	{"b a b c a list:5", "b a c", "b a c", ""},
	{"a a +", "a", "a", ""},
	{"d c - b & a *", "d c b a", "d c b a", ""},
	{"b a item size c < d ==", "b a c d", "b a c d", ""},
	{"a $x b + let:x", "a b", "a b", ""},
	{"a c $x let:y let:x", "a c", "a c", ""},
	{"x $x let:x", "x", "x", ""},
	{"a fail b panic +", "a b", "a b", ""},
	// Gates, nested ones and twice the same.
	{"a gate:g", "a", "a", "g"},
	{"a gate:h b gate:g + gate:i", "a b", "a b", "h g i"},
	{"a gate:h gate:g", "a", "a", "h g"},
	{"1 gate:g 2 gate:h 3 gate:g list:3", "", "", "g h"},
	{"g gate:g", "g", "g", "g"},
	{"a 1 gate:g 2 gate:h if", "a", "a", "g h"},
	{"1 gate:g 2 gate:h try", "", "", "g h"},
	{"1 $g let:g", "", "", ""},
	// XIf: the first part, one of the others, both of them.
	{"a b c if", "a b c", "a", ""},
	{"a b c + c if", "a b c", "a c", ""},
	{"1 a a if", "a", "a", ""},
	{"1 a b list:2 b a list:2 if", "a b", "a b", ""},
	{"1 a b if", "a b", "", ""},
	{"1 a 2 if", "a", "", ""},
	{"1 2 a if", "a", "", ""},
	{"a a 2 if", "a", "a", ""},
	{"a 2 a if", "a", "a", ""},
	{"b a 2 if a list:2", "b a", "b a", ""},
	{"1 a 2 if 1 a 2 if +", "a", "", ""},
	{"1 a 2 if 1 2 a if +", "a", "", ""},
	{"1 1 a 2 if a if", "a", "", ""},
	{"1 a 1 2 a if if", "a", "", ""},
	{"1 1 a a if a if", "a", "a", ""},
	{"1 1 a b if 1 b a if if", "a b", "", ""},
	{"1 1 a c + b c + if c if", "a c b", "c", ""},
	{"1 b a if c d if", "b a c d", "", ""},
	{"c b a if b a if", "c b a", "c", ""},
	{"1 a size list:1 gate:g 0 a $x + let:x if", "a", "a", "g"},
	{"1 a a let:x a if", "a", "a", ""},
	{"1 b a + a c + if d b + list:2", "b a c d", "b a d", ""},
	// XTry: its first part, its second one, both.
	{"a b try", "a b", "a", ""},
	{"a a try", "a", "a", ""},
	{"1 a try", "a", "", ""},
	{"a 1 try", "a", "a", ""},
	{"1 a try a +", "a", "a", ""},
	{"a b try c try", "a b c", "a", ""},
	{"a b c try try", "a b c", "a", ""},
	{"1 a try 1 a try +", "a", "", ""},
	{"a fail b try", "a b", "a", ""},
	{"1 1 a try a if", "a", "", ""},
	{"1 a 1 a try if", "a", "", ""},
	{"1 a b try a if", "a b", "a", ""},
	{"1 a a if b try", "a b", "a", ""},
	{"1 1 a a if try", "a", "", ""},
	{"1 b 2 if b try", "b", "", ""},
	{"a 1 a try 1 if", "a", "a", ""},
}

func TestAskedSureGates(t *testing.T) {
	for _, c := range asking {
		for _, call := range []struct {
			name string
			of   func(e api.Expr) ([]string, api.Errno)
			want string
		}{{"Asked", names.Asked, c.asked}, {"Sure", names.Sure, c.sure}, {"Gates", names.Gates, c.gates}} {
			l, code := call.of(ops(c.e))
			wantCode(t, call.name+" of "+c.e, code, api.OK)
			wantNames(t, call.name+" of "+c.e, l, call.want)
		}
	}
}

// manyNames is so many names, none twice, with blanks between them.
func manyNames(n int) string {
	var b strings.Builder
	for i := range n {
		b.WriteString("n" + strconv.Itoa(i) + " ")
	}
	return b.String()
}

func TestAskedAndSureOfMany(t *testing.T) {
	most := manyNames(api.MaxOps - 1)
	for _, of := range []func(e api.Expr) ([]string, api.Errno){names.Asked, names.Sure} {
		l, code := of(ops(most + "list:" + strconv.Itoa(api.MaxOps-1)))
		wantCode(t, "of the most names", code, api.OK)
		wantNames(t, "of the most names", l, most)
	}
	// Both parts of an XIf ask for all of them, the third one from the back on.
	half := strings.Fields(manyNames(120))
	turned := slices.Clone(half)
	slices.Reverse(turned)
	l, code := names.Sure(ops("1 " + strings.Join(half, " ") + " list:120 " + strings.Join(turned, " ") + " list:120 if"))
	wantCode(t, "of names in both parts", code, api.OK)
	wantNames(t, "of names in both parts", l, strings.Join(half, " "))
}

func TestAskedSureGatesOfWrongOnes(t *testing.T) {
	noExprs(func(e api.Expr, want api.Errno) {
		for _, of := range []func(e api.Expr) ([]string, api.Errno){names.Asked, names.Sure, names.Gates} {
			if l, code := of(e); len(l) != 0 || code != want {
				t.Errorf("of %s: %v, %v; want %v", brief(e), l, code, want)
			}
		}
	})
}

func TestRename(t *testing.T) {
	for _, c := range []struct{ e, from, to, want string }{
		{"a", "a", "b", "b"},
		{"a", "b", "c", "a"},
		{"a", "a", "a", "a"},
		{"1", "a", "b", "1"},
		{"a b + a *", "a", "c", "c b + c *"},
		{"a b + a *", "a", "b", "b b + b *"},
		{"a b + a *", "c", "a", "a b + a *"},
		{"a b c + c if", "c", longName, "a b " + longName + " + " + longName + " if"},
		{longName, longName, "a", "a"},
		{"aa a +", "a", "b", "aa b +"},
		// A text, a local, an XLet and a gate of that name are no names that are asked for.
		{"'a", "a", "b", "'a"},
		{"a $a a list:2 let:a gate:a 'a list:2", "a", "b", "b $a b list:2 let:a gate:a 'a list:2"},
	} {
		e, code := names.Rename(ops(c.e), c.from, c.to)
		if code != api.OK || !slices.Equal(e, ops(c.want)) {
			t.Errorf("Rename(%s, %s, %s): %v, %v; want %s", c.e, c.from, c.to, e, code, c.want)
		}
	}
	for _, e := range right {
		if r, code := names.Rename(e, "not_there", "a"); code != api.OK || !slices.Equal(r, e) {
			t.Errorf("Rename of what is not in %s: %s, %v", brief(e), brief(r), code)
		}
	}
}

func TestRenameOfWrongOnes(t *testing.T) {
	look := func(e api.Expr, from, to string, want api.Errno) {
		t.Helper()
		if r, code := names.Rename(e, from, to); len(r) != 0 || code != want {
			t.Errorf("Rename(%s, %.40q, %.40q): %v, %v; want %v", brief(e), from, to, brief(r), code, want)
		}
	}
	for _, s := range noNames {
		for _, e := range []api.Expr{ops("a"), ops("1"), ops("a b +")} {
			look(e, s, "a", api.ErrForm)
			look(e, "a", s, api.ErrForm)
			look(e, "not_there", s, api.ErrForm)
			look(e, s, s, api.ErrForm)
		}
	}
	noExprs(func(e api.Expr, want api.Errno) {
		look(e, "a", "b", want)
		look(e, "A", "b", want)
		look(e, "a", "", want)
	})
}

// 5.3

// lines is a set: each line is a provider's name, and those that it asks for.
func lines(l ...string) []api.Provider {
	var set []api.Provider
	for _, line := range l {
		words := strings.Fields(line)
		e := ops(strings.Join(words[1:], " "))
		set = append(set, api.Provider{Name: words[0], Expr: append(e, api.Op{Kind: api.XList, N: len(e)})})
	}
	return set
}

// sets are sets, and what they lead to: for each provider, in order, its name, its Longest and its closure.
var sets = []struct {
	l               []api.Provider
	missing, cyclic string
	each            []string
}{
	{nil, "", "", nil},
	{lines("a"), "", "", []string{"a 1"}},
	{lines("a b"), "b", "", []string{"a 1 b"}},
	{lines("a c b"), "c b", "", []string{"a 1 b c"}},
	{lines("a b b", "b"), "", "", []string{"a 2 b", "b 1"}},
	{lines("b", "a b"), "", "", []string{"b 1", "a 2 b"}},
	// The chapter's own.
	{lines("a b", "b a c", "d", "f d d"), "c", "a b", []string{"a -1 a b c", "b -1 a b c", "d 1", "f 2 d"}},
	// Names that no provider has, several times, and in the order in which they stand.
	{lines("a z y", "b x y z", "c w"), "z y x w", "", []string{"a 1 y z", "b 1 x y z", "c 1 w"}},
	{lines("c z b a", "b a y", "a x z"), "z y x", "", []string{"c 3 a b x y z", "b 2 a x y z", "a 1 x z"}},
	// Rounds of one, two and three.
	{lines("a a"), "", "a", []string{"a -1 a"}},
	{lines("a a b", "b"), "", "a", []string{"a -1 a b", "b 1"}},
	{lines("b a", "a b"), "", "a b", []string{"b -1 a b", "a -1 a b"}},
	{lines("a b", "b c", "c a"), "", "a b c", []string{"a -1 a b c", "b -1 a b c", "c -1 a b c"}},
	{lines("a b", "b c", "c a d", "d e", "e"), "", "a b c", []string{"a -1 a b c d e", "b -1 a b c d e", "c -1 a b c d e", "d 2 e", "e 1"}},
	// Chains beside rounds, into rounds, out of them, and from one to another.
	{lines("a b", "b b", "c d", "d"), "", "b", []string{"a -1 b", "b -1 b", "c 2 d", "d 1"}},
	{lines("a b c", "b d", "c", "d e", "e d"), "", "d e", []string{"a -1 b c d e", "b -1 d e", "c 1", "d -1 d e", "e -1 d e"}},
	{lines("a c b", "b d", "c", "d e", "e d"), "", "d e", []string{"a -1 b c d e", "b -1 d e", "c 1", "d -1 d e", "e -1 d e"}},
	{lines("a a b", "b c", "c d", "d d"), "", "a d", []string{"a -1 a b c d", "b -1 c d", "c -1 d", "d -1 d"}},
	{lines("a b", "b a c", "c d", "d c", "e a", "f e z"), "z", "a b c d", []string{"a -1 a b c d", "b -1 a b c d", "c -1 c d", "d -1 c d", "e -1 a b c d", "f -1 a b c d e z"}},
	// Ways of several lengths to one.
	{lines("a d b", "b c", "c d", "d"), "", "", []string{"a 4 b c d", "b 3 c d", "c 2 d", "d 1"}},
	{lines("a b d", "b c", "c d", "d"), "", "", []string{"a 4 b c d", "b 3 c d", "c 2 d", "d 1"}},
	{lines("a b c", "b d", "c d", "d z"), "z", "", []string{"a 3 b c d z", "b 2 d z", "c 2 d z", "d 1 z"}},
	// By bytes, not by length nor by a number within.
	{lines("a b c10 c9 c_ ca cb0 c", "b", "c_", "ca"), "c10 c9 cb0 c", "", []string{"a 2 b c c10 c9 c_ ca cb0", "b 1", "c_ 1", "ca 1"}},
	{lines("z10 z9 z z_", "z9 z10", "z z", "z_ z9"), "", "z z10 z9 z_", []string{"z10 -1 z z10 z9 z_", "z9 -1 z z10 z9 z_", "z -1 z", "z_ -1 z z10 z9 z_"}},
	// What is asked in any part of an expression counts; what is no XName does not.
	{
		[]api.Provider{{Name: "a", Expr: ops("1 b 2 if")}, {Name: "b", Expr: ops("1 a try")}, {Name: "c", Expr: ops("'a $a let:a gate:a")}, {Name: "d", Expr: ops("1 c gate:g try")}},
		"", "a b", []string{"a -1 a b", "b -1 a b", "c 1", "d 2 c"},
	},
}

func TestSets(t *testing.T) {
	for _, c := range sets {
		what := brief(c.l)
		missing, fault := names.Missing(c.l)
		wantFault(t, "Missing of "+what, fault, api.Fault{})
		wantNames(t, "Missing of "+what, missing, c.missing)
		cyclic, fault := names.Cyclic(c.l)
		wantFault(t, "Cyclic of "+what, fault, api.Fault{})
		wantNames(t, "Cyclic of "+what, cyclic, c.cyclic)
		for i, line := range c.each {
			words := strings.Fields(line)
			if words[0] != c.l[i].Name {
				t.Fatalf("%s: the line of %s is not in its place", what, words[0])
			}
			closure, fault := names.Closure(c.l, words[0])
			wantFault(t, "Closure of "+words[0]+" of "+what, fault, api.Fault{})
			wantNames(t, "Closure of "+words[0]+" of "+what, closure, strings.Join(words[2:], " "))
			n, fault := names.Longest(c.l, words[0])
			wantFault(t, "Longest of "+words[0]+" of "+what, fault, api.Fault{})
			if strconv.Itoa(n) != words[1] {
				t.Errorf("Longest of %s of %s: %d, want %s", words[0], what, n, words[1])
			}
		}
	}
}

func TestNamesWithoutProvider(t *testing.T) {
	none := api.Fault{Code: api.ErrNone}
	for _, l := range [][]api.Provider{nil, {}, lines("a b"), lines("a b", "c a c"), many(api.MaxCells)} {
		for _, name := range append([]string{"b", "z", longName}, noNames...) {
			if found, fault := names.Closure(l, name); len(found) != 0 || fault != none {
				t.Errorf("Closure of %.40q of %s: %v, %v", name, brief(l), found, fault)
			}
			if n, fault := names.Longest(l, name); n != 0 || fault != none {
				t.Errorf("Longest of %.40q of %s: %d, %v", name, brief(l), n, fault)
			}
		}
	}
}

func TestSetsOfWrongOnes(t *testing.T) {
	noSets(func(l []api.Provider, want api.Fault) {
		if found, fault := names.Missing(l); len(found) != 0 || fault != want {
			t.Errorf("Missing of %s: %v, %v; want %v", brief(l), found, fault, want)
		}
		if found, fault := names.Cyclic(l); len(found) != 0 || fault != want {
			t.Errorf("Cyclic of %s: %v, %v; want %v", brief(l), found, fault, want)
		}
		// The set's fault comes ahead of the name's.
		for _, name := range []string{"a", "p0", "z", ""} {
			if found, fault := names.Closure(l, name); len(found) != 0 || fault != want {
				t.Errorf("Closure of %q of %s: %v, %v; want %v", name, brief(l), found, fault, want)
			}
			if n, fault := names.Longest(l, name); n != 0 || fault != want {
				t.Errorf("Longest of %q of %s: %d, %v; want %v", name, brief(l), n, fault, want)
			}
		}
	})
}

// ring is as many providers as may be, each of which asks for the next one, and the last one for those that are told.
func ring(last string) []api.Provider {
	var l []string
	for i := range api.MaxCells - 1 {
		l = append(l, "p"+strconv.Itoa(i)+" p"+strconv.Itoa(i+1))
	}
	return lines(append(l, "p"+strconv.Itoa(api.MaxCells-1)+" "+last)...)
}

func TestSetsAtTheirLimits(t *testing.T) {
	for _, c := range []struct {
		last                           string
		longest, closure, cyclic, half int
	}{
		{"", api.MaxCells, api.MaxCells - 1, 0, api.MaxCells / 2},
		{"z", api.MaxCells, api.MaxCells, 0, api.MaxCells / 2},
		{"p0", -1, api.MaxCells, api.MaxCells, -1},
		{"p255", -1, api.MaxCells - 1, 1, -1},
		{"p100", -1, api.MaxCells - 1, 156, -1},
	} {
		l := ring(c.last)
		n, _ := names.Longest(l, "p0")
		half, _ := names.Longest(l, "p"+strconv.Itoa(api.MaxCells/2))
		closure, _ := names.Closure(l, "p0")
		cyclic, fault := names.Cyclic(l)
		if n != c.longest || half != c.half || len(closure) != c.closure || len(cyclic) != c.cyclic || fault != (api.Fault{}) || !slices.IsSorted(closure) || !slices.IsSorted(cyclic) {
			t.Errorf("a chain whose end asks for %q: %d, %d, %d, %d, %v", c.last, n, half, len(closure), len(cyclic), fault)
		}
	}
}

// dense is as many providers as may be; each asks for all that which tells (of its number, and theirs), as far as there is room.
func dense(which func(from, to int) bool) []api.Provider {
	l := make([]string, api.MaxCells)
	for from := range l {
		l[from] = "p" + strconv.Itoa(from)
		room := api.MaxOps - 1
		for to := range l {
			if room > 0 && which(from, to) {
				l[from] += " p" + strconv.Itoa(to)
				room--
			}
		}
	}
	return lines(l...)
}

// Ways from one name to another are more than could be gone one by one.
func TestDenseSets(t *testing.T) {
	down := dense(func(from, to int) bool { return to < from })
	n, fault := names.Longest(down, "p255")
	if cyclic, _ := names.Cyclic(down); n != api.MaxCells || fault != (api.Fault{}) || len(cyclic) != 0 {
		t.Errorf("each asks for all with a lesser number: %d, %v, %d cyclic", n, fault, len(cyclic))
	}
	all := dense(func(from, to int) bool { return true })
	n, fault = names.Longest(all, "p0")
	// None has the room to ask for the last one.
	if cyclic, _ := names.Cyclic(all); n != -1 || fault != (api.Fault{}) || len(cyclic) != api.MaxCells-1 {
		t.Errorf("each asks for all: %d, %v, %d cyclic", n, fault, len(cyclic))
	}
}

func TestMissingOfMany(t *testing.T) {
	var l []string
	var want []string
	for i := range api.MaxCells {
		line := "p" + strconv.Itoa(i)
		for j := range 20 {
			name := "m" + strconv.Itoa((i*7+j*13)%3000)
			line += " " + name
			if !slices.Contains(want, name) {
				want = append(want, name)
			}
		}
		l = append(l, line)
	}
	missing, fault := names.Missing(lines(l...))
	wantFault(t, "Missing of many", fault, api.Fault{})
	wantNames(t, "Missing of many", missing, strings.Join(want, " "))
}
