package eval_test

import (
	"fmt"
	"math"
	"slices"
	"strconv"
	"strings"
	"testing"

	"onceweb/api"
	"onceweb/eval"
	"onceweb/fail"
	"onceweb/grammar"
	"onceweb/value"
)

// read is the expression whose text s is.
func read(s string) api.Expr {
	x, f := grammar.ReadExpr(s)
	if f.Code != api.OK {
		panic(fmt.Sprint("no expression: ", s, f))
	}
	return x
}

// outcome is a value, a failure, or a panic, as these tests write it: its text.
func outcome(s string) api.Outcome {
	if v, e := value.Parse(s); e == api.OK {
		return api.Outcome{Kind: api.OValue, Value: v}
	}
	f, e := fail.Parse(s)
	if e != api.OK {
		panic("no outcome: " + s)
	}
	if f[len(f)-1].Kind == api.FPanic {
		return api.Outcome{Kind: api.OPanic, Fail: f}
	}
	return api.Outcome{Kind: api.OFail, Fail: f}
}

// knownAs is what is known, by lines of a name, a blank, and an outcome.
func knownAs(lines ...string) []api.Known {
	var l []api.Known
	for _, line := range lines {
		name, out, _ := strings.Cut(line, " ")
		l = append(l, api.Known{Name: name, Outcome: outcome(out)})
	}
	return l
}

// meaning is what an expression comes to: an outcome, or stands and the gate; and the names that were asked for.
func meaning(s, asked string) api.Meaning {
	if gate, ok := strings.CutPrefix(s, "stands "); ok {
		return api.Meaning{Gate: gate, Asked: strings.Fields(asked)}
	}
	return api.Meaning{Outcome: outcome(s), Asked: strings.Fields(asked)}
}

const most = api.MaxInt

var (
	longName = strings.Repeat("z", api.MaxName)
	longText = strings.Repeat("x", api.MaxWord)
	keywords = strings.Fields("cell again tries base factor cap close fine fail panic if then else try wait let in item size")
	noNames  = append([]string{"", "A", "_a", "1", "1a", "a b", "a ", " a", "$a", "a-b", "é", "a\x00", longName + "z", longText + "x"}, keywords...)
)

// broad is a list of numbers, of so many atoms in all.
func broad(size int) api.Value {
	return append(slices.Repeat(api.Value{{Kind: api.VInt, Int: 1}}, size-1), api.Atom{Kind: api.VList, N: size - 1})
}

// deep is an empty list in lists of one member, of that depth.
func deep(depth int) api.Value {
	return append(api.Value{{Kind: api.VList}}, slices.Repeat(api.Value{{Kind: api.VList, N: 1}}, depth-1)...)
}

func valued(v api.Value) api.Outcome { return api.Outcome{Kind: api.OValue, Value: v} }

// world is what is known in most of these tests. Nothing is known of lost.
var world = append(knownAs(
	"nought 0", "one 1", "two 2", "minus -1", "most "+strconv.Itoa(most), "least -"+strconv.Itoa(most),
	`void ""`, `word "abc"`, "none []", `row [7, "a", []]`, `no fail "no"`, `oh panic "oh"`,
	`far cell db: join(fail "a"; token "stop": cycle a; panic "p"; depth)`, "gone none other"),
	api.Known{Name: "full", Outcome: valued(broad(api.MaxAtoms))},
	api.Known{Name: "roomy", Outcome: valued(broad(api.MaxAtoms - 1))},
	api.Known{Name: "bottom", Outcome: valued(deep(api.MaxNest))},
	api.Known{Name: "low", Outcome: valued(deep(api.MaxNest - 1))},
	api.Known{Name: "long", Outcome: valued(api.Value{{Kind: api.VText, Text: longText}})},
	// A failure whose whole is a panic is a failure all the same.
	api.Known{Name: "odd", Outcome: api.Outcome{Kind: api.OFail, Fail: api.Fail{{Kind: api.FPanic, Text: "odd"}}}},
)

// The gates door and hatch are open, every other one is shut.
var open = []string{"door", "hatch", "door"}

func sameOutcome(a, b api.Outcome) bool {
	return a.Kind == b.Kind && slices.Equal(a.Value, b.Value) && slices.Equal(a.Fail, b.Fail)
}

func sameMeaning(a, b api.Meaning) bool {
	return sameOutcome(a.Outcome, b.Outcome) && a.Gate == b.Gate && slices.Equal(a.Asked, b.Asked)
}

// brief is the beginning of what v is told as: some values are very long.
func brief(v any) string {
	s := fmt.Sprint(v)
	return s[:min(len(s), 300)]
}

// wantMeaning asks what x comes to in that world.
func wantMeaning(t *testing.T, x api.Expr, known []api.Known, open []string, want api.Meaning) {
	t.Helper()
	if m, e := eval.Eval(x, known, open); e != api.OK || !sameMeaning(m, want) {
		t.Errorf("Eval of %s: %s, %v; want %s", brief(x), brief(m), e, brief(want))
	}
}

// wantError asks for an error, and for nothing else.
func wantError(t *testing.T, x api.Expr, known []api.Known, open []string, want api.Errno) {
	t.Helper()
	if m, e := eval.Eval(x, known, open); e != want || !sameMeaning(m, api.Meaning{}) {
		t.Errorf("Eval of %s, known %s, open %s: %s, %v; want %v", brief(x), brief(known), brief(open), brief(m), e, want)
	}
}

// row is an expression, what it comes to in the world, and the names that it asks for.
type row struct{ x, want, asked string }

func wantRows(t *testing.T, rows []row) {
	t.Helper()
	for _, r := range rows {
		wantMeaning(t, read(r.x), world, open, meaning(r.want, r.asked))
	}
}

// 8.1: what an expression comes to

func TestNumbersTextsLists(t *testing.T) {
	wantRows(t, []row{
		{"0", "0", ""}, {"7", "7", ""}, {"-7", "-7", ""}, {strconv.Itoa(most), strconv.Itoa(most), ""}, {"-" + strconv.Itoa(most), "-" + strconv.Itoa(most), ""},
		{`""`, `""`, ""}, {`"a\"\n\xff"`, `"a\"\n\xff"`, ""}, {`"one"`, `"one"`, ""}, {`"` + longText + `"`, `"` + longText + `"`, ""},
		{"[]", "[]", ""}, {"[1]", "[1]", ""}, {`[1, "a", [], [[2], "b"]]`, `[1, "a", [], [[2], "b"]]`, ""},
		{"[one, [row, word], two, one]", `[1, [[7, "a", []], "abc"], 2, 1]`, "one row word two one"},
		{"[one + 1, [two * 3, 4], size(word)]", "[2, [6, 4], 3]", "one two word"},
	})
}

func TestOperations(t *testing.T) {
	wantRows(t, []row{
		{"2 + 3", "5", ""}, {"2 - 3", "-1", ""}, {"2 * 3", "6", ""}, {"one + two", "3", "one two"}, {"two - one", "1", "two one"}, {"two * two", "4", "two two"},
		{`"a" & "b"`, `"ab"`, ""}, {`"" & ""`, `""`, ""}, {"word & word", `"abcabc"`, "word word"}, {`[1] & ["a", []]`, `[1, "a", []]`, ""}, {"[] & []", "[]", ""}, {"none & row & row", `[7, "a", [], 7, "a", []]`, "none row row"},
		{"item(row, nought)", "7", "row nought"}, {"item(row, 1)", `"a"`, "row"}, {"item(row, 2)", "[]", "row"}, {"item([[1, 2], [3]], 0)", "[1, 2]", ""}, {"item(item([[1, 2], [3]], 0), 1)", "2", ""},
		{`size("")`, "0", ""}, {"size(word)", "3", "word"}, {`size("\xc3\xa9")`, "2", ""}, {"size([])", "0", ""}, {"size(row)", "3", "row"}, {"size([[1, 2, 3]])", "1", ""}, {"size(long)", strconv.Itoa(api.MaxWord), "long"},
		{"1 < 2", "1", ""}, {"2 < 1", "0", ""}, {"1 < 1", "0", ""}, {`2 < "1"`, "1", ""}, {`"1" < 2`, "0", ""}, {`"z" < []`, "1", ""}, {`[] < "z"`, "0", ""}, {"[1] < [1, 0]", "1", ""}, {`"a" < "ab"`, "1", ""}, {"row < row", "0", "row row"},
		{"1 == 1", "1", ""}, {"1 == 2", "0", ""}, {`1 == "1"`, "0", ""}, {"[] == []", "1", ""}, {`row == [7, "a", []]`, "1", "row"}, {`"a" == "a"`, "1", ""}, {"word == void", "0", "word void"},
	})
}

func TestOperationsAtTheirEdges(t *testing.T) {
	wantRows(t, []row{
		{"most + 0", strconv.Itoa(most), "most"}, {"most - 1 + 1", strconv.Itoa(most), "most"}, {"most + 1", "value add", "most"}, {"least + 1 + -1", "-" + strconv.Itoa(most), "least"}, {"least + -1", "value add", "least"}, {"most + least", "0", "most least"}, {"most + most", "value add", "most most"},
		{"least - 0", "-" + strconv.Itoa(most), "least"}, {"least - 1", "value sub", "least"}, {"most - -1", "value sub", "most"}, {"0 - least", strconv.Itoa(most), "least"}, {"most - least", "value sub", "most least"}, {"most - most", "0", "most most"},
		{"most * 1", strconv.Itoa(most), "most"}, {"most * -1", "-" + strconv.Itoa(most), "most"}, {"most * 2", "value mul", "most"}, {"least * 2", "value mul", "least"}, {"least * least", "value mul", "least least"}, {"1073741824 * 1073741824", "value mul", ""}, {"67108864 * 134217728", strconv.Itoa(most), ""}, {"4294967296 * 4294967296", "value mul", ""}, {"most * 0", "0", "most"},
		{`size(long & "")`, strconv.Itoa(api.MaxWord), "long"}, {`long & "a"`, "value join", "long"}, {`"a" & long`, "value join", "long"}, {"long & long", "value join", "long long"},
		{"size(full & [])", strconv.Itoa(api.MaxAtoms - 1), "full"}, {"size(roomy & [1])", strconv.Itoa(api.MaxAtoms - 1), "roomy"}, {"full & [1]", "value join", "full"}, {"[1] & full", "value join", "full"}, {"roomy & [[1]]", "value join", "roomy"}, {"full & full", "value join", "full full"},
		{"size([roomy])", "1", "roomy"}, {"[full]", "value list", "full"}, {"[roomy, 1]", "value list", "roomy"}, {"[low] == bottom", "1", "low bottom"}, {"[bottom]", "value list", "bottom"}, {"[1, bottom]", "value list", "bottom"}, {"[low, low] == bottom & bottom", "1", "low low bottom bottom"},
		{"item(row, -1)", "value item", "row"}, {"item(row, 3)", "value item", "row"}, {"item(row, most)", "value item", "row most"}, {"item(row, least)", "value item", "row least"}, {"item([], 0)", "value item", ""}, {"item(full, 1022)", "1", "full"}, {"item(full, 1023)", "value item", "full"}, {"item(bottom, 0) == low", "1", "bottom low"},
	})
	wantMeaning(t, read("full & []"), world, open, api.Meaning{Outcome: valued(broad(api.MaxAtoms)), Asked: []string{"full"}})
	wantMeaning(t, read("[low]"), world, open, api.Meaning{Outcome: valued(deep(api.MaxNest)), Asked: []string{"low"}})
	wantMeaning(t, read("[roomy]"), world, open, api.Meaning{Outcome: valued(append(broad(api.MaxAtoms-1), api.Atom{Kind: api.VList, N: 1})), Asked: []string{"roomy"}})
}

// byKind is values of each kind, by names of the world.
var byKind = map[int][]string{
	api.VInt:  {"nought", "one", "minus", "most"},
	api.VText: {"void", "word", "long"},
	api.VList: {"none", "row", "full", "bottom"},
}

// eachOf calls f with every value of byKind, and with its kind.
func eachOf(f func(name string, kind int)) {
	for kind, names := range byKind {
		for _, name := range names {
			f(name, kind)
		}
	}
}

func TestValuesThatDoNotFit(t *testing.T) {
	unfit := func(form, word string, fits func(a, b int) bool) {
		t.Helper()
		eachOf(func(a string, kindA int) {
			eachOf(func(b string, kindB int) {
				if !fits(kindA, kindB) {
					wantMeaning(t, read(fmt.Sprintf(form, a, b)), world, open, meaning("value "+word, a+" "+b))
				}
			})
		})
	}
	numbers := func(a, b int) bool { return a == api.VInt && b == api.VInt }
	unfit("%s + %s", "add", numbers)
	unfit("%s - %s", "sub", numbers)
	unfit("%s * %s", "mul", numbers)
	unfit("%s & %s", "join", func(a, b int) bool { return a == b && a != api.VInt })
	unfit("item(%s, %s)", "item", func(a, b int) bool { return a == api.VList && b == api.VInt })
	eachOf(func(name string, kind int) {
		if kind == api.VInt {
			wantRows(t, []row{{"size(" + name + ")", "value size", name}})
		} else {
			wantRows(t, []row{{"if " + name + " then lost else lost", "value if", name}})
		}
		if kind != api.VText {
			wantRows(t, []row{{"fail(" + name + ")", "value fail", name}, {"panic(" + name + ")", "value panic", name}})
		}
	})
}

func TestNames(t *testing.T) {
	wantRows(t, []row{
		{"one", "1", "one"}, {"row", `[7, "a", []]`, "row"}, {"no", `fail "no"`, "no"}, {"oh", `panic "oh"`, "oh"},
		{"far", `cell db: join(fail "a"; token "stop": cycle a; panic "p"; depth)`, "far"}, {"gone", "none other", "gone"},
		{"lost", "none lost", "lost"}, {longName, "none " + longName, longName}, {"[one, one, two, one, lost, one]", "none lost", "one one two one lost"},
	})
	wantMeaning(t, read("odd"), world, open, api.Meaning{Outcome: api.Outcome{Kind: api.OFail, Fail: api.Fail{{Kind: api.FPanic, Text: "odd"}}}, Asked: []string{"odd"}})
	wantMeaning(t, read("one"), nil, nil, meaning("none one", "one"))
	wantMeaning(t, read("one"), []api.Known{}, []string{}, meaning("none one", "one"))
}

// ends is parts that come to no value: what they come to, and the names that they ask for.
var ends = []row{
	{"no", `fail "no"`, "no"}, {"far", `cell db: join(fail "a"; token "stop": cycle a; panic "p"; depth)`, "far"}, {"lost", "none lost", "lost"}, {`fail("x")`, `fail "x"`, ""}, {`fail(word)`, `fail "abc"`, "word"}, {`1 + "a"`, "value add", ""}, {"one & two", "value join", "one two"},
	{"if void then 1 else 2", "value if", "void"}, {"let $q = no in lost", `fail "no"`, "no"}, {"wait door . no", `fail "no"`, "no"}, {"try lost else no", `fail "no"`, "lost no"}, {"let $q = one in fail($q)", "value fail", "one"},
	{"oh", `panic "oh"`, "oh"}, {`panic("y")`, `panic "y"`, ""}, {"try oh else 1", `panic "oh"`, "oh"}, {"try lost else oh", `panic "oh"`, "lost oh"}, {"wait hatch . oh", `panic "oh"`, "oh"},
	{"wait wall . 1", "stands wall", ""}, {"wait wall . lost", "stands wall", ""}, {"wait door . wait wall . 1", "stands wall", ""}, {"wait wall . wait door . lost", "stands wall", ""}, {"wait fence . wait wall . 1", "stands fence", ""}, {"one + (wait wall . 1)", "stands wall", "one"}, {"try wait wall . no else lost", "stands wall", ""}, {"try lost else wait fence . 1", "stands fence", "lost"},
}

// isFailure tells whether an outcome, as these tests write it, is a failure.
func isFailure(s string) bool {
	return !strings.HasPrefix(s, "stands ") && outcome(s).Kind == api.OFail
}

// form is an operation, with names of the world that fit as its parts; ahead of these it asks for others.
type form struct {
	text  string
	parts []string
	ahead string
}

// forms are all operations whose parts are looked at one behind the other, as they stand.
var forms = []form{
	{text: "[%s]", parts: []string{"one"}}, {text: "[%s, %s, %s]", parts: []string{"one", "word", "row"}}, {text: "%s + %s", parts: []string{"one", "two"}}, {text: "%s - %s", parts: []string{"one", "two"}}, {text: "%s * %s", parts: []string{"one", "two"}},
	{text: "%s & %s", parts: []string{"word", "void"}}, {text: "%s & %s", parts: []string{"row", "none"}}, {text: "item(%s, %s)", parts: []string{"row", "one"}}, {text: "size(%s)", parts: []string{"row"}}, {text: "%s < %s", parts: []string{"one", "word"}}, {text: "%s == %s", parts: []string{"row", "one"}},
	{text: "fail(%s)", parts: []string{"word"}}, {text: "panic(%s)", parts: []string{"word"}}, {text: "wait door . %s", parts: []string{"one"}}, {text: "let $x = %s in %s", parts: []string{"one", "two"}},
	{text: "if %s then %s else lost", parts: []string{"one", "two"}}, {text: "if %s then %s else lost", parts: []string{"minus", "two"}}, {text: "if %s then lost else %s", parts: []string{"nought", "two"}}, {text: "try fail(void) else %s", parts: []string{"one"}, ahead: "void "},
}

// with is the form with those parts, in brackets.
func (f form) with(parts []string) string {
	var l []any
	for _, p := range parts {
		l = append(l, "("+p+")")
	}
	return fmt.Sprintf(f.text, l...)
}

func TestPartsThatComeToNoValue(t *testing.T) {
	for _, f := range forms {
		for i := range f.parts {
			for _, end := range ends {
				// What stands to the right would be asked for, if it were looked at.
				parts := slices.Concat(f.parts[:i], []string{end.x}, slices.Repeat([]string{"one + lost"}, len(f.parts)-i-1))
				asked := f.ahead + strings.Join(append(slices.Clone(f.parts[:i]), end.asked), " ")
				wantRows(t, []row{{f.with(parts), end.want, asked}})
			}
		}
	}
}

func TestIf(t *testing.T) {
	wantRows(t, []row{
		{"if 1 then 2 else 3", "2", ""}, {"if 0 then 2 else 3", "3", ""}, {"if -1 then 2 else 3", "2", ""}, {"if most then 2 else 3", "2", "most"}, {"if least then 2 else 3", "2", "least"},
		{"if one then two else lost", "2", "one two"}, {"if nought then lost else two", "2", "nought two"}, {"if 0 then oh else 2", "2", ""}, {"if 1 then 2 else wait wall . 1", "2", ""}, {"if 0 then wait wall . 1 else 2", "2", ""},
		{`if "" then one else two`, "value if", ""}, {`if "1" then one else two`, "value if", ""}, {"if [] then one else two", "value if", ""}, {"if [1] then one else two", "value if", ""}, {"if [0] then one else two", "value if", ""},
		{"if if 0 then 1 else 0 then one else two", "2", "two"}, {"if one then if nought then 1 else 2 else 3", "2", "one nought"}, {"if one < two then word else row", `"abc"`, "one two word"}, {"if 1 then one else one", "1", "one"},
		{"if one == one then [one] else one", "[1]", "one one one"},
	})
}

func TestTry(t *testing.T) {
	for _, end := range ends {
		want, asked := end.want, end.asked
		if isFailure(want) {
			want, asked = "2", asked+" two"
		}
		wantRows(t, []row{{"try (" + end.x + ") else two", want, asked}})
	}
	wantRows(t, []row{
		{"try one else lost", "1", "one"}, {"try one else oh", "1", "one"}, {"try 1 else wait wall . 1", "1", ""}, {"try [] else lost", "[]", ""},
		{"try no else no", `fail "no"`, "no no"}, {"try no else oh", `panic "oh"`, "no oh"}, {"try no else wait wall . 1", "stands wall", "no"}, {"try oh else 7", `panic "oh"`, "oh"}, {"try odd else 7", "7", "odd"}, {"try gone else 7", "7", "gone"},
		{"try try no else lost else 3", "3", "no lost"}, {"try no else try lost else 3", "3", "no lost"}, {"try no else try one else 3", "1", "no one"}, {"1 + (try no + one else two)", "3", "no two"}, {"(try [one, no] else [one]) & [two]", "[1, 2]", "one no one two"},
		{"try if void then 1 else 2 else 3", "3", "void"}, {"try panic(one) else 4", "4", "one"}, {"try fail(one) else 5", "5", "one"},
	})
}

func TestFailAndPanic(t *testing.T) {
	wantRows(t, []row{
		{`fail("")`, `fail ""`, ""}, {`fail("no")`, `fail "no"`, ""}, {"fail(word & word)", `fail "abcabc"`, "word word"}, {"fail(long)", `fail "` + longText + `"`, "long"},
		{`panic("")`, `panic ""`, ""}, {`panic("no")`, `panic "no"`, ""}, {"panic(word)", `panic "abc"`, "word"}, {"panic(long)", `panic "` + longText + `"`, "long"},
		{"fail(1)", "value fail", ""}, {"fail([])", "value fail", ""}, {`fail(["a"])`, "value fail", ""}, {"panic(1)", "value panic", ""}, {"panic([])", "value panic", ""}, {`panic(["a"])`, "value panic", ""},
		{`fail(fail("a"))`, `fail "a"`, ""}, {`fail(panic("a"))`, `panic "a"`, ""}, {`panic(fail("a"))`, `fail "a"`, ""}, {`panic(panic("a"))`, `panic "a"`, ""},
	})
}

func TestGates(t *testing.T) {
	wantRows(t, []row{
		{"wait door . 1", "1", ""}, {"wait door . one", "1", "one"}, {"wait hatch . wait door . one", "1", "one"}, {"wait wall . one", "stands wall", ""}, {"wait wall . oh", "stands wall", ""},
		{`(wait wall . "a") & lost`, "stands wall", ""}, {`(wait door . "a") & lost`, "none lost", "lost"}, {"one + (wait wall . two)", "stands wall", "one"}, {"[one, wait door . two, wait wall . lost, lost]", "stands wall", "one two"},
		{"if one then wait wall . 1 else 2", "stands wall", "one"}, {"if nought then wait wall . 1 else 2", "2", "nought"}, {"wait wall . wait fence . 1", "stands wall", ""}, {"(wait fence . 1) + (wait wall . 1)", "stands fence", ""},
		// A cell's name, and a local's, is another thing than a gate's.
		{"wait one . 1", "stands one", ""}, {"let $wall = 1 in wait wall . 1", "stands wall", ""}, {"[door, 1]", "none door", "door"},
	})
	g := read("wait g . 1")
	wantMeaning(t, g, nil, nil, meaning("stands g", ""))
	wantMeaning(t, g, nil, []string{"h", "gg"}, meaning("stands g", ""))
	wantMeaning(t, g, knownAs("g 1"), []string{"h"}, meaning("stands g", ""))
	wantMeaning(t, g, nil, []string{"h", "g"}, meaning("1", ""))
	wantMeaning(t, g, nil, []string{"g", "g", "g"}, meaning("1", ""))
	long := api.Expr{{Kind: api.XInt, Int: 1}, {Kind: api.XGate, N: 1, Text: longName}}
	wantMeaning(t, long, nil, []string{longName[1:]}, meaning("stands "+longName, ""))
	wantMeaning(t, long, nil, []string{longName}, meaning("1", ""))
}

func TestLet(t *testing.T) {
	wantRows(t, []row{
		{"let $x = 1 in $x", "1", ""}, {"let $x = 1 in 2", "2", ""}, {"let $x = one in $x + $x", "2", "one"}, {"let $x = row in [$x, $x]", `[[7, "a", []], [7, "a", []]]`, "row"}, {"let $x = one in two", "2", "one two"},
		// What a local stands for is asked for once, and at once.
		{"let $x = one in [$x, two, $x]", "[1, 2, 1]", "one two"}, {"let $x = lost in 1", "none lost", "lost"}, {"let $x = oh in 1", `panic "oh"`, "oh"}, {"let $x = wait wall . 1 in 1", "stands wall", ""}, {"let $x = no in try $x else 1", `fail "no"`, "no"}, {"try let $x = no in $x else 1", "1", "no"},
		// The nearest one of its name.
		{"let $x = 1 in let $x = 2 in $x", "2", ""}, {"let $x = 1 in (let $x = 2 in $x) + $x", "3", ""}, {"let $x = 1 in $x + (let $x = 2 in $x)", "3", ""}, {"let $x = 1 in let $x = $x + 1 in $x", "2", ""}, {"let $x = 1 in let $x = $x + 1 in let $x = $x * 10 in $x", "20", ""},
		{"let $x = 1 in [let $x = 2 in [let $x = 3 in $x, $x], $x]", "[[3, 2], 1]", ""}, {"let $x = let $x = 1 in $x + 1 in $x + 5", "7", ""}, {"let $x = 1 in let $x = (let $x = 5 in $x) + $x in $x", "6", ""},
		{"let $x = 1 in let $y = 2 in $x - $y", "-1", ""}, {"let $x = 1 in let $y = $x in let $x = 2 in [$x, $y]", "[2, 1]", ""}, {"let $y = 1 in let $x = 2 in let $y = 3 in [$x, $y]", "[2, 3]", ""}, {"(let $x = 1 in $x) + (let $x = 2 in $x)", "3", ""},
		{"let $x = 1 in (let $y = 2 in $y) + (let $y = 3 in $y + $x) + $x", "7", ""},
		// A part that fails, or stands, on the way leaves no local behind.
		{"let $x = 1 in (try let $x = 2 in no else $x) + $x", "2", "no"}, {"let $x = 1 in (try let $x = 2 in let $x = 3 in fail(word) else $x) + $x", "2", "word"}, {"let $x = 1 in try let $x = no in $x else $x", "1", "no"}, {"let $x = 1 in try let $x = 2 in fail($x) else $x", "1", ""},
		// A local of a cell's name is another thing.
		{"let $one = 5 in $one + one", "6", "one"}, {"let $x = 5 in wait door . if 1 then [$x] else lost", "[5]", ""}, {`let $x = "a" in fail($x)`, `fail "a"`, ""},
	})
}

func TestWhatIsAskedForInOrder(t *testing.T) {
	wantRows(t, []row{
		{"[two, one, two, two, one]", "[2, 1, 2, 2, 1]", "two one two two one"}, {"if one then two else row", "2", "one two"}, {"try one + no else two + no", `fail "no"`, "one no two no"}, {"let $x = one in let $y = two in [$x, $y, word]", `[1, 2, "abc"]`, "one two word"},
		{"[one, if nought then two else [row, two], one]", `[1, [[7, "a", []], 2], 1]`, "one nought row two one"}, {"one + (two * (one - two))", "-1", "one two one two"},
	})
	all := api.Expr{}
	asked := []string{}
	for i := range api.MaxOps - 1 {
		name := world[i%4].Name
		all, asked = append(all, api.Op{Kind: api.XName, Text: name}), append(asked, name)
	}
	all = append(all, api.Op{Kind: api.XList, N: api.MaxOps - 1})
	if m, e := eval.Eval(all, world, nil); e != api.OK || !slices.Equal(m.Asked, asked) || len(m.Outcome.Value) != api.MaxOps {
		t.Errorf("as many names as may be: %s, %v", brief(m), e)
	}
}

func TestExpressionsAtTheirLimits(t *testing.T) {
	lets := strings.Repeat("let $x = $x + 1 in ", api.MaxNest-3)
	wantRows(t, []row{
		{"let $x = 0 in " + lets + "$x", strconv.Itoa(api.MaxNest - 3), ""},
		{strings.Repeat("wait door . ", api.MaxNest-1) + "one", "1", "one"},
		{strings.Repeat("wait door . ", api.MaxNest-2) + "wait wall . one", "stands wall", ""},
		{strings.Repeat("try no else ", api.MaxNest-1) + "one", "1", strings.Repeat("no ", api.MaxNest-1) + "one"},
		{strings.Repeat("(", api.MaxNest-1) + "one" + strings.Repeat(" + two)", api.MaxNest-1), strconv.Itoa(2*api.MaxNest - 1), "one" + strings.Repeat(" two", api.MaxNest-1)},
		{strings.Repeat("if one then ", api.MaxNest-1) + "two" + strings.Repeat(" else lost", api.MaxNest-1), "2", strings.Repeat("one ", api.MaxNest-1) + "two"},
	})
	wantMeaning(t, append(api.Expr{{Kind: api.XList}}, slices.Repeat(api.Expr{op(api.XList, 1)}, api.MaxNest-1)...), nil, nil, api.Meaning{Outcome: valued(deep(api.MaxNest))})
	wantMeaning(t, append(ones(api.MaxOps-1), op(api.XList, api.MaxOps-1)), nil, nil, api.Meaning{Outcome: valued(broad(api.MaxOps))})
}

// 8.1: errors

func op(kind, n int) api.Op { return api.Op{Kind: kind, N: n} }

// ones is so many XInts.
func ones(n int) api.Expr { return slices.Repeat(api.Expr{{Kind: api.XInt, Int: 1}}, n) }

// wrongExprs are no expressions, each in its own way.
func wrongExprs() []api.Expr {
	l := []api.Expr{
		nil, {}, ones(2), {op(api.XAdd, 2)}, append(ones(1), op(api.XAdd, 2)), append(ones(3), op(api.XAdd, 2)), append(ones(2), op(api.XAdd, 3)), append(ones(2), op(api.XIf, 3)), append(ones(1), op(api.XList, -1)), append(ones(1), op(api.XList, 2)), append(ones(2), op(api.XList, math.MinInt)), append(ones(1), op(api.XList, math.MaxInt)),
		{{}}, {{Kind: -1}}, {op(api.XLet+1, 0)}, append(ones(1), op(api.XLet+1, 1)), {{Kind: math.MaxInt}}, {{Kind: math.MinInt}},
		{{Kind: api.XInt, Int: most + 1}}, {{Kind: api.XInt, Int: -most - 1}}, {{Kind: api.XInt, Int: math.MaxInt}}, {{Kind: api.XInt, Text: "a"}}, {{Kind: api.XText, Int: 1}}, {{Kind: api.XText, Text: longText + "x"}}, append(ones(1), api.Op{Kind: api.XSize, N: 1, Text: "a"}),
		// Locals that are not bound.
		{{Kind: api.XLocal, Text: "x"}}, append(ones(1), api.Op{Kind: api.XLocal, Text: "y"}, api.Op{Kind: api.XLet, N: 2, Text: "x"}), {{Kind: api.XLocal, Text: "x"}, {Kind: api.XInt}, {Kind: api.XLet, N: 2, Text: "x"}},
		// Too many, too deep.
		append(ones(api.MaxOps), op(api.XList, api.MaxOps)), ones(api.MaxOps + 1), append(ones(api.MaxItems), op(api.XList, api.MaxItems)), append(ones(1), slices.Repeat(api.Expr{op(api.XSize, 1)}, api.MaxNest)...),
	}
	for _, s := range noNames {
		l = append(l, api.Expr{{Kind: api.XName, Text: s}}, append(ones(1), api.Op{Kind: api.XGate, N: 1, Text: s}), append(ones(2), api.Op{Kind: api.XLet, N: 2, Text: s}))
	}
	return l
}

// wrongOutcomes are outcomes that are not right.
func wrongOutcomes() []api.Outcome {
	raised, panicked := api.Fail{{Kind: api.FRaise, Text: "a"}}, api.Fail{{Kind: api.FPanic, Text: "a"}}
	one := api.Value{{Kind: api.VInt, Int: 1}}
	long := slices.Repeat(api.Fail{{Kind: api.FCell, N: 1, Text: "a"}}, api.MaxCracks)
	l := []api.Outcome{
		{}, {Kind: api.ONone, Value: one}, {Kind: api.ONone, Fail: raised}, {Kind: -1, Value: one}, {Kind: 4, Value: one}, {Kind: 4, Fail: raised}, {Kind: math.MaxInt, Fail: panicked}, {Kind: math.MinInt, Value: one},
		{Kind: api.OValue, Value: one, Fail: raised}, {Kind: api.OValue, Fail: raised}, {Kind: api.OValue, Value: one, Fail: api.Fail{{}}},
		{Kind: api.OFail, Value: one, Fail: raised}, {Kind: api.OFail, Value: one}, {Kind: api.OFail, Value: api.Value{{}}, Fail: raised},
		{Kind: api.OPanic, Value: one, Fail: panicked}, {Kind: api.OPanic, Value: one}, {Kind: api.OPanic, Value: api.Value{{}}, Fail: panicked},
		// A panic whose whole is another one.
		{Kind: api.OPanic, Fail: raised}, {Kind: api.OPanic, Fail: append(panicked[:1:1], api.Crack{Kind: api.FCell, N: 1, Text: "a"})}, {Kind: api.OPanic, Fail: append(panicked[:1:1], api.Crack{Kind: api.FJoin, N: 1})}, {Kind: api.OPanic, Fail: api.Fail{{Kind: api.FLong}}},
	}
	for _, v := range []api.Value{nil, {}, {{}}, {{Kind: api.VInt, Int: most + 1}}, {{Kind: api.VList, N: 1}}, append(one[:1:1], one...), broad(api.MaxAtoms + 1), deep(api.MaxNest + 1), {{Kind: api.VText, Text: longText + "x"}}, broad(api.MaxItems + 1)} {
		l = append(l, valued(v))
	}
	for _, kind := range []int{api.OFail, api.OPanic} {
		for _, f := range []api.Fail{nil, {}, {{}}, {{Kind: api.FRaise, N: 1}}, {{Kind: api.FCell, N: 1, Text: "a"}}, append(panicked[:1:1], panicked...), {{Kind: api.FPanic, Text: longText + "x"}}, {{Kind: api.FPanic, N: 1}}, {{Kind: api.FValue, Text: "less"}}, {{Kind: api.FNone, Text: "A"}}, append(raised[:1:1], long...), append(raised[:1:1], panicked...)} {
			l = append(l, api.Outcome{Kind: kind, Fail: f})
		}
	}
	return l
}

// many is as many names of which something is known as are asked for, none twice.
func many(n int) []api.Known {
	l := make([]api.Known, n)
	for i := range l {
		l[i] = api.Known{Name: "n" + strconv.Itoa(i), Outcome: outcome(strconv.Itoa(i))}
	}
	return l
}

func TestWrongExpressions(t *testing.T) {
	for _, x := range wrongExprs() {
		wantError(t, x, nil, nil, api.ErrShape)
		wantError(t, x, world, open, api.ErrShape)
		// What is known, and open, is looked at behind it.
		wantError(t, x, many(api.MaxItems+1), []string{"A"}, api.ErrShape)
		wantError(t, x, []api.Known{{}}, make([]string, api.MaxItems+1), api.ErrShape)
	}
}

func TestWrongNames(t *testing.T) {
	for _, s := range noNames {
		for _, out := range append([]api.Outcome{outcome("1")}, wrongOutcomes()...) {
			wantError(t, ones(1), []api.Known{{Name: s, Outcome: out}}, nil, api.ErrForm)
		}
		wantError(t, ones(1), append(world[:3:3], api.Known{Name: s, Outcome: outcome("1")}), open, api.ErrForm)
		// Of one that is none it does not count that it stood there ahead.
		wantError(t, ones(1), []api.Known{{Name: s, Outcome: outcome("1")}, {Name: s, Outcome: outcome("1")}}, nil, api.ErrForm)
		wantError(t, ones(1), nil, []string{s}, api.ErrForm)
		wantError(t, ones(1), world, []string{"door", s, "hatch"}, api.ErrForm)
		wantError(t, ones(1), world, []string{"door", "hatch", s, s}, api.ErrForm)
	}
	for _, s := range []string{"a", "z", "x_1", "a0", "a_", "cells", "ifs", longName} {
		wantMeaning(t, read("[1]"), []api.Known{{Name: s, Outcome: outcome("1")}}, []string{s}, meaning("[1]", ""))
	}
}

func TestNamesThatStoodThereAhead(t *testing.T) {
	a, b := api.Known{Name: "a", Outcome: outcome("1")}, api.Known{Name: "b", Outcome: outcome("1")}
	for _, out := range append([]api.Outcome{outcome("1"), outcome("2"), outcome("closed")}, wrongOutcomes()...) {
		again := api.Known{Name: "a", Outcome: out}
		wantError(t, ones(1), []api.Known{a, again}, nil, api.ErrTwice)
		wantError(t, ones(1), []api.Known{a, b, again}, []string{"A"}, api.ErrTwice)
		wantError(t, ones(1), []api.Known{b, a, again, {}}, make([]string, api.MaxItems+1), api.ErrTwice)
	}
	wantError(t, ones(1), append(many(api.MaxItems-1), many(1)...), nil, api.ErrTwice)
}

func TestWrongOutcomes(t *testing.T) {
	for _, out := range wrongOutcomes() {
		bad := api.Known{Name: "bad", Outcome: out}
		for _, x := range []api.Expr{read("bad"), read("1")} {
			wantError(t, x, []api.Known{bad}, nil, api.ErrShape)
			wantError(t, x, append(world[:5:5], bad), open, api.ErrShape)
			// The first one that is wrong is told, whatever stands behind it.
			wantError(t, x, []api.Known{bad, bad}, nil, api.ErrShape)
			wantError(t, x, []api.Known{bad, {Name: "A"}}, nil, api.ErrShape)
			wantError(t, x, []api.Known{bad}, []string{"A"}, api.ErrShape)
			wantError(t, x, []api.Known{bad}, make([]string, api.MaxItems+1), api.ErrShape)
			wantError(t, x, []api.Known{{Name: "A", Outcome: out}, bad}, nil, api.ErrForm)
		}
	}
}

func TestOutcomesThatAreRight(t *testing.T) {
	panicked := api.Fail{{Kind: api.FPanic, Text: longText}}
	raised := slices.Concat(api.Fail{{Kind: api.FRaise, Text: "a"}}, slices.Repeat(api.Fail{{Kind: api.FCell, N: 1, Text: "a"}}, api.MaxCracks-1))
	for _, out := range []api.Outcome{
		{Kind: api.OValue, Value: broad(api.MaxAtoms), Fail: api.Fail{}}, {Kind: api.OValue, Value: deep(api.MaxNest)}, {Kind: api.OFail, Fail: panicked}, {Kind: api.OFail, Fail: raised, Value: api.Value{}},
		{Kind: api.OPanic, Fail: panicked}, {Kind: api.OPanic, Fail: api.Fail{{Kind: api.FPanic}}, Value: api.Value{}}, {Kind: api.OFail, Fail: api.Fail{{Kind: api.FLong}}}, outcome("join(closed; depth; long)"), outcome(`token "a": cell b: panic "c"`),
	} {
		wantMeaning(t, read("a"), []api.Known{{Name: "a", Outcome: out}}, nil, api.Meaning{Outcome: out, Asked: []string{"a"}})
	}
}

func TestTooManyKnownOrOpen(t *testing.T) {
	last := "n" + strconv.Itoa(api.MaxItems-1)
	gates := slices.Repeat([]string{"g"}, api.MaxItems)
	wantMeaning(t, read("[wait g . "+last+", n0]"), many(api.MaxItems), gates, meaning("["+strconv.Itoa(api.MaxItems-1)+", 0]", last+" n0"))
	wantError(t, ones(1), many(api.MaxItems+1), nil, api.ErrLong)
	wantError(t, ones(1), make([]api.Known, api.MaxItems+1), []string{"A"}, api.ErrLong)
	wantError(t, ones(1), make([]api.Known, api.MaxItems), make([]string, api.MaxItems+1), api.ErrForm)
	wantError(t, ones(1), nil, append(gates, "g"), api.ErrLong)
	wantError(t, ones(1), nil, make([]string, api.MaxItems+1), api.ErrLong)
	wantError(t, ones(1), nil, make([]string, api.MaxItems), api.ErrForm)
	wantError(t, ones(1), []api.Known{{Name: "A"}}, make([]string, api.MaxItems+1), api.ErrForm)
}

func TestExamples(t *testing.T) {
	try := api.Expr{{Kind: api.XName, Text: "a"}, {Kind: api.XInt, Int: 7}, op(api.XTry, 2)}
	wantMeaning(t, try, knownAs(`a fail "no"`), nil, meaning("7", "a"))
	wantMeaning(t, try, knownAs(`a panic "oh"`), nil, meaning(`panic "oh"`, "a"))
	wantMeaning(t, try, nil, nil, meaning("7", "a"))
	wantMeaning(t, api.Expr{{Kind: api.XInt, Int: 1}, {Kind: api.XText, Text: "x"}, op(api.XAdd, 2)}, nil, nil, meaning("value add", ""))
	wantMeaning(t, api.Expr{{Kind: api.XInt}, {Kind: api.XName, Text: "a"}, {Kind: api.XInt, Int: 2}, op(api.XIf, 3)}, nil, nil, meaning("2", ""))
	join := read(`(wait g . "a") & b`)
	wantMeaning(t, join, nil, nil, meaning("stands g", ""))
	wantMeaning(t, join, nil, []string{"g"}, meaning("none b", "b"))
}
