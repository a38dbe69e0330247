package machine_test

import (
	"fmt"
	"slices"
	"strconv"
	"strings"
	"testing"

	"onceweb/api"
	"onceweb/code"
	"onceweb/fail"
	"onceweb/grammar"
	"onceweb/machine"
	"onceweb/value"
)

// read is the expression whose text s is.
func read(s string) api.Expr {
	x, f := grammar.ReadExpr(s)
	if f.Code != api.OK {
		panic(fmt.Sprint("no expression: ", s, f))
	}
	return x
}

// compile is the code of x, which is right.
func compile(x api.Expr) api.Code {
	c, e := code.Compile(x)
	if e != api.OK {
		panic(fmt.Sprint("no code of ", brief(x), e))
	}
	return c
}

// codeOf is a sound code, as these tests write it: lines with semicolons between.
func codeOf(s string) api.Code {
	c, f := code.Parse(strings.Join(linesOf(s), "\n") + "\n")
	if f.Code != api.OK {
		panic(fmt.Sprint("no sound code: ", s, f))
	}
	return c
}

func linesOf(s string) []string {
	lines := strings.Split(s, ";")
	for i, line := range lines {
		lines[i] = strings.TrimSpace(line)
	}
	return lines
}

// codeFor is a code that is written so, or that of an expression that is.
func codeFor(s string) api.Code {
	if strings.HasSuffix(s, "halt") {
		return codeOf(s)
	}
	return compile(read(s))
}

// outcome is a value, a failure, or a panic, as these tests write it: its text.
func outcome(s string) api.Outcome {
	if v, e := value.Parse(s); e == api.OK {
		return api.Outcome{Kind: api.OValue, Value: v}
	}
	f, e := fail.Parse(s)
	if e != api.OK {
		panic("no outcome: " + s)
	}
	if f[len(f)-1].Kind == api.FPanic {
		return api.Outcome{Kind: api.OPanic, Fail: f}
	}
	return api.Outcome{Kind: api.OFail, Fail: f}
}

func valued(v api.Value) api.Outcome { return api.Outcome{Kind: api.OValue, Value: v} }

// brief is the beginning of what v is told as: some codes and values are very long.
func brief(v any) string {
	s := fmt.Sprint(v)
	return s[:min(len(s), 300)]
}

var (
	longName = strings.Repeat("z", api.MaxName)
	longText = strings.Repeat("x", api.MaxWord)
	keywords = strings.Fields("cell again tries base factor cap close fine fail panic if then else try wait let in item size")
	noNames  = append([]string{"", "A", "_a", "1", "1a", "a b", "a ", " a", "$a", "a-b", "é", "a\x00", longName + "z", longText + "x"}, keywords...)
)

// broad is a list of numbers, of so many atoms in all.
func broad(size int) api.Value {
	return append(slices.Repeat(api.Value{{Kind: api.VInt, Int: 1}}, size-1), api.Atom{Kind: api.VList, N: size - 1})
}

// deep is an empty list in lists of one member, of that depth.
func deep(depth int) api.Value {
	return append(api.Value{{Kind: api.VList}}, slices.Repeat(api.Value{{Kind: api.VList, N: 1}}, depth-1)...)
}

// wide is a join of so many cracks in all.
func wide(size int) api.Fail {
	return append(slices.Repeat(api.Fail{{Kind: api.FDepth}}, size-1), api.Crack{Kind: api.FJoin, N: size - 1})
}

func newOf(t *testing.T, c api.Code) *machine.Machine {
	t.Helper()
	m, e := machine.New(c)
	if e != api.OK || m == nil {
		t.Fatalf("New(%s): %v", brief(c), e)
	}
	return m
}

// What machines tell, as text.

func outcomeText(o api.Outcome) string {
	if v, e := value.Print(o.Value); o.Kind == api.OValue && e == api.OK && len(o.Fail) == 0 {
		return v
	}
	f, e := fail.Print(o.Fail)
	if e == api.OK && len(o.Value) == 0 && sameOutcome(o, outcome(f)) {
		return f
	}
	// Not what it seems: a failure whose whole is a panic, or something that is not right.
	return fmt.Sprintf("%d %v %s", o.Kind, o.Value, f)
}

func eventText(e api.Event) string {
	none := sameOutcome(e.Outcome, api.Outcome{})
	switch {
	case e.Kind == api.EForce && none:
		return "cell " + e.Name
	case e.Kind == api.EGate && none:
		return "gate " + e.Name
	case e.Kind == api.EEnded && e.Name == "":
		return "ended " + outcomeText(e.Outcome)
	}
	return fmt.Sprintf("odd %v", e)
}

// stands is where m stands: At, Done, Stack.
func stands(m *machine.Machine) string {
	var stack []string
	for _, v := range m.Stack() {
		stack = append(stack, outcomeText(valued(v)))
	}
	return fmt.Sprintf("@%d #%d [%s]", m.At(), m.Done(), strings.Join(stack, " "))
}

func sameOutcome(a, b api.Outcome) bool {
	return a.Kind == b.Kind && slices.Equal(a.Value, b.Value) && slices.Equal(a.Fail, b.Fail)
}

func sameEvent(a, b api.Event) bool {
	return a.Kind == b.Kind && a.Name == b.Name && sameOutcome(a.Outcome, b.Outcome)
}

// act does what a word of these tests says to m: step, pass, or give and an outcome; and tells what came of it.
func act(m *machine.Machine, s string) string {
	word, rest, _ := strings.Cut(s, " ")
	switch word {
	case "step":
		return eventText(m.Step())
	case "pass":
		return strconv.Itoa(int(m.Pass()))
	case "give":
		return strconv.Itoa(int(m.Give(outcome(rest))))
	}
	panic("no act: " + s)
}

// played is a code, or an expression, and what is done with a machine of it: each act, behind it what came of it and where the machine stands then.
type played struct {
	code string
	acts []string
}

func wantPlayed(t *testing.T, rows []played) {
	t.Helper()
	for _, r := range rows {
		m := newOf(t, codeFor(r.code))
		for i := 0; i < len(r.acts); i += 2 {
			told := act(m, r.acts[i]) + " " + stands(m)
			if told != r.acts[i+1] {
				t.Errorf("%s: %s, the act %d: %s; want %s", r.code, r.acts[i], i/2, told, r.acts[i+1])
			}
		}
	}
}

// 10.1: New

func TestExamples(t *testing.T) {
	m := newOf(t, compile(read("try a else 7")))
	for _, r := range [][2]string{{"step", "cell a"}, {`give fail "x"`, "0"}, {"step", "ended 7"}} {
		if told := act(m, r[0]); told != r[1] {
			t.Errorf("%s: %s, want %s", r[0], told, r[1])
		}
	}
	if m.Done() != 4 {
		t.Errorf("Done: %d", m.Done())
	}
	m = newOf(t, compile(read("wait g . a + 1")))
	for _, r := range [][2]string{{"give 1", "7"}, {"step", "gate g"}, {"pass", "0"}, {"step", "cell a"}, {`give "t"`, "0"}, {"step", "ended value add"}} {
		if told := act(m, r[0]); told != r[1] {
			t.Errorf("%s: %s, want %s", r[0], told, r[1])
		}
	}
}

// instr is an instruction of one number, or of one text.
func instr(op int, v any) api.Instr {
	switch v := v.(type) {
	case int:
		return api.Instr{Op: op, A: v}
	case string:
		return api.Instr{Op: op, Text: v}
	}
	return api.Instr{Op: op}
}

var (
	halt = instr(api.CHalt, nil)
	one  = instr(api.CInt, 1)
)

// longCode is a sound code of that size, at least 2, that no expression is compiled to.
func longCode(size int) api.Code {
	c := make(api.Code, size)
	for at := range c {
		c[at] = instr(api.CJump, at+1)
	}
	c[size-2], c[size-1] = one, halt
	return c
}

// unsound is codes that are not sound, one for each thing that may be wrong.
func unsound() []api.Code {
	l := []api.Code{
		nil, {}, {halt}, {one}, {one, one}, {one, halt, halt}, {halt, one}, {halt, one, halt}, {one, one, halt},
		{instr(0, nil), halt}, {instr(api.CPast+1, nil), halt}, {instr(-1, nil), halt}, {{}, halt},
		{instr(api.CInt, api.MaxInt+1), halt}, {instr(api.CInt, -api.MaxInt-1), halt}, {{Op: api.CInt, Text: "x"}, halt},
		{instr(api.CText, longText+"x"), halt}, {{Op: api.CText, A: 1}, halt}, {{Op: api.CForce, A: 1, Text: "a"}, halt}, {{Op: api.CGate, A: 1, Text: "a"}, one, instr(api.CPast, nil), halt},
		{one, {Op: api.CHalt, A: 1}}, {one, {Op: api.CHalt, Text: "x"}}, {one, instr(api.CJump, 1), halt}, {one, instr(api.CJump, 3), halt}, {one, instr(api.CJump, 0), halt}, {one, instr(api.CJump, -1), halt},
		{instr(api.CMake, -1), halt}, {instr(api.CMake, 1), halt}, {one, instr(api.CDo, api.XAdd), halt}, {instr(api.CDo, api.XSize), halt}, {one, one, instr(api.CDo, api.XList), halt}, {one, one, instr(api.CDo, api.XIf), halt},
		{instr(api.CLoad, 0), halt}, {one, instr(api.CKeep, 1), one, instr(api.CLeave, 1), halt}, {one, instr(api.CKeep, 0), one, halt}, {one, instr(api.CLeave, 0), halt}, {one, instr(api.CKeep, 0), instr(api.CLoad, 1), instr(api.CLeave, 0), halt},
		{one, instr(api.CDone, nil), halt}, {one, instr(api.CPast, nil), halt}, {instr(api.CGate, "g"), one, halt}, {instr(api.CTry, 2), one, halt},
		{instr(api.CFail, nil), halt}, {instr(api.CPanic, nil), halt}, {one, instr(api.CElse, 3), one, halt},
		// What stood on the stack at a CTry is taken away.
		{one, instr(api.CTry, 6), one, instr(api.CDo, api.XAdd), instr(api.CDone, nil), instr(api.CJump, 7), one, halt},
		append(slices.Repeat(api.Code{one}, code.MaxCode), halt), longCode(code.MaxCode + 1), make(api.Code, api.MaxItems+1),
		append(slices.Repeat(api.Code{one}, api.MaxOps+1), instr(api.CMake, api.MaxOps+1), halt),
		append(slices.Repeat(api.Code{one}, api.MaxItems), instr(api.CMake, api.MaxItems), halt),
	}
	for _, name := range noNames {
		l = append(l, api.Code{instr(api.CForce, name), halt}, api.Code{instr(api.CGate, name), one, instr(api.CPast, nil), halt})
	}
	return l
}

func TestNewOfUnsoundCodes(t *testing.T) {
	told := map[api.Errno]int{}
	for _, c := range unsound() {
		want := code.Check(c)
		if m, e := machine.New(c); m != nil || e != want || e == api.OK {
			t.Errorf("New(%s): %v, %v; want %v", brief(c), m, e, want)
		}
		told[want]++
	}
	if told[api.ErrLong] != 4 || told[api.ErrCode] < 50 {
		t.Errorf("the codes are all alike: %v", told)
	}
}

// anyway is sound codes that no expression is compiled to, and what they come to, where a is 5, and g is open.
var anyway = [][2]string{
	{"int 1; jump 2; halt", "1"},
	{"int 0; else 2; int 1; halt", "1"},
	{"int 7; int 0; else 3; halt", "7"},
	{`int 1; jump 4; text "x"; fail; halt`, "1"},
	{"int 1; jump 4; past; done; halt", "1"},
	{"int 1; jump 3; force b; halt", "1"},
	{`try 3; text "x"; fail; int 7; halt`, "7"},
	{`try 3; text "x"; panic; int 7; halt`, `panic "x"`},
	{"force a; try 4; int 1; fail; halt", "5"},
	{"force a; try 5; int 1; int 2; fail; int 3; do add; halt", "8"},
	{"gate g; int 1; past; jump 5; int 2; halt", "1"},
	{"gate g; int 1; jump 4; int 2; past; halt", "1"},
	{"gate g; force a; past; keep 0; load 0; load 0; leave 0; make 2; halt", "[5, 5]"},
	{"int 1; keep 0; int 2; keep 1; load 1; load 0; leave 1; leave 0; do sub; halt", "1"},
	{"int 1; int 2; keep 0; load 0; do sub; leave 0; halt", "-1"},
	{"int 1; int 2; int 3; keep 0; keep 1; load 0; load 1; make 3; leave 1; leave 0; halt", "[1, 3, 2]"},
	{"int 1; keep 0; leave 0; int 2; keep 0; load 0; leave 0; halt", "2"},
	{"int 1; try 5; int 2; done; do add; halt", "3"},
	{`int 0; try 4; text "x"; fail; keep 0; int 4; leave 0; halt`, "4"},
	{`int 9; try 8; int 1; else 6; text "x"; fail; text "y"; fail; halt`, "9"},
}

func TestNewOfCodesOfNoExpression(t *testing.T) {
	known := []api.Known{{Name: "a", Outcome: outcome("5")}}
	for _, r := range anyway {
		c := codeOf(r[0])
		if _, e := code.Decompile(c); e != api.ErrNone {
			t.Errorf("%s: there is an expression of it: %v", r[0], e)
		}
		m, e := machine.Run(c, known, []string{"g"})
		if e != api.OK || outcomeText(m.Outcome) != r[1] || m.Gate != "" {
			t.Errorf("%s: %v, %v; want %s", r[0], m, e, r[1])
		}
	}
}

func TestNewHasDoneNothing(t *testing.T) {
	for _, s := range []string{"int 1; halt", "force a; halt", "gate g; int 1; past; halt", `text "x"; fail; halt`, "int 1; jump 2; halt"} {
		if m := newOf(t, codeOf(s)); stands(m) != "@0 #0 []" {
			t.Errorf("%s: %s", s, stands(m))
		}
	}
	m := newOf(t, longCode(code.MaxCode))
	if told := act(m, "step") + " " + stands(m); told != fmt.Sprintf("ended 1 @%d #%d []", code.MaxCode-1, code.MaxCode) {
		t.Errorf("the longest code: %s", told)
	}
}

// 10.2: what each instruction does

// done is an expression, what it comes to (where a is given 5, and gates are passed), how many instructions that takes, and where it ends.
type done struct {
	x, want   string
	count, at int
}

// everyKind is expressions that are compiled to every instruction.
var everyKind = []done{
	{"0", "0", 2, 1}, {"-7", "-7", 2, 1}, {"9007199254740992", "9007199254740992", 2, 1}, {"-9007199254740992", "-9007199254740992", 2, 1},
	{`""`, `""`, 2, 1}, {`"a\"\n"`, `"a\"\n"`, 2, 1}, {`"` + longText + `"`, `"` + longText + `"`, 2, 1},
	{"a", "5", 2, 1},
	{"[]", "[]", 2, 1}, {"[1]", "[1]", 3, 2}, {`[1, "x", a]`, `[1, "x", 5]`, 5, 4}, {"[[], [1, [2]], 3]", "[[], [1, [2]], 3]", 8, 7},
	{"1 + 2", "3", 4, 3}, {"1 - 2", "-1", 4, 3}, {"3 * 4", "12", 4, 3}, {`"a" & "b"`, `"ab"`, 4, 3}, {"[1] & [2, 3]", "[1, 2, 3]", 7, 6},
	{"item([7, 8], 1)", "8", 6, 5}, {"item([7, 8], 0)", "7", 6, 5}, {`size("abc")`, "3", 3, 2}, {"size([1, 1])", "2", 5, 4},
	{"1 < 2", "1", 4, 3}, {"2 < 1", "0", 4, 3}, {"1 < 1", "0", 4, 3}, {`1 < ""`, "1", 4, 3}, {`[] < ""`, "0", 4, 3}, {"1 == 1", "1", 4, 3}, {"1 == 2", "0", 4, 3}, {`"1" == 1`, "0", 4, 3},
	{"if 1 then 2 else 3", "2", 5, 5}, {"if 0 then 2 else 3", "3", 4, 5}, {"if -1 then 2 else 3", "2", 5, 5}, {"if a then 2 else 3", "2", 5, 5},
	{"try 1 else 2", "1", 5, 5}, {`try fail("x") else 2`, "2", 5, 6}, {`try panic("x") else 2`, `panic "x"`, 3, 2},
	{`fail("x")`, `fail "x"`, 2, 1}, {`fail("")`, `fail ""`, 2, 1}, {`panic("x")`, `panic "x"`, 2, 1}, {`panic("")`, `panic ""`, 2, 1},
	{`fail("` + longText + `")`, `fail "` + longText + `"`, 2, 1}, {`panic("` + longText + `")`, `panic "` + longText + `"`, 2, 1},
	{"wait g . 1", "1", 4, 3}, {"wait g . wait h . a", "5", 6, 5},
	{"let $x = 1 in $x", "1", 5, 4}, {"let $x = 1 in let $y = 2 in $x - $y", "-1", 10, 9}, {"let $x = 1 in let $x = $x + 1 in $x", "2", 10, 9}, {"let $x = let $y = a in $y in [$x, $x]", "[5, 5]", 10, 9},
	// What does not fit.
	{`1 + "x"`, "value add", 3, 2}, {`"x" + 1`, "value add", 3, 2}, {"[] + []", "value add", 3, 2}, {"9007199254740992 + 1", "value add", 3, 2}, {`1 - "x"`, "value sub", 3, 2}, {"-9007199254740992 - 1", "value sub", 3, 2}, {`1 * "x"`, "value mul", 3, 2}, {"9007199254740992 * 2", "value mul", 3, 2},
	{`1 & "x"`, "value join", 3, 2}, {`[] & "x"`, "value join", 3, 2}, {"1 & 2", "value join", 3, 2}, {`"` + longText + `" & "x"`, "value join", 3, 2},
	{"item(1, 0)", "value item", 3, 2}, {`item("x", 0)`, "value item", 3, 2}, {"item([], 0)", "value item", 3, 2}, {"item([7], 1)", "value item", 4, 3}, {"item([7], -1)", "value item", 4, 3}, {`item([7], "x")`, "value item", 4, 3}, {"item([7], [])", "value item", 4, 3},
	{"size(1)", "value size", 2, 1}, {"size(a)", "value size", 2, 1},
	{`if "" then 1 else 2`, "value if", 2, 1}, {`if "0" then 1 else 2`, "value if", 2, 1}, {"if [] then 1 else 2", "value if", 2, 1}, {"if [0] then 1 else 2", "value if", 3, 2},
	{"fail(1)", "value fail", 2, 1}, {"fail([])", "value fail", 2, 1}, {`fail(["x"])`, "value fail", 3, 2}, {"panic(1)", "value panic", 2, 1}, {"panic([])", "value panic", 2, 1}, {`panic(["x"])`, "value panic", 3, 2},
}

// finish gives m 5 for whatever cell it wants, and passes all gates, to its end.
func finish(m *machine.Machine) api.Outcome {
	for {
		switch e := m.Step(); e.Kind {
		case api.EForce:
			m.Give(outcome("5"))
		case api.EGate:
			m.Pass()
		default:
			return e.Outcome
		}
	}
}

// wantDone asks what x comes to, how many instructions that takes, and where it ends.
func wantDone(t *testing.T, r done) {
	t.Helper()
	m := newOf(t, compile(read(r.x)))
	out := finish(m)
	if outcomeText(out) != r.want || stands(m) != fmt.Sprintf("@%d #%d []", r.at, r.count) {
		t.Errorf("%s: %s %s; want %s @%d #%d []", brief(r.x), brief(outcomeText(out)), stands(m), brief(r.want), r.at, r.count)
	}
}

func TestEveryInstruction(t *testing.T) {
	for _, r := range everyKind {
		wantDone(t, r)
	}
}

// TestEveryInstructionWithin: alone it ends, where it fails or panics; else it goes on to what is around it, and so to the end.
func TestEveryInstructionWithin(t *testing.T) {
	for _, r := range everyKind {
		out := outcome(r.want)
		size := len(compile(read(r.x)))
		ends := func(x string, ahead, behind int) done {
			if out.Kind != api.OValue {
				return done{x, r.want, r.count + ahead, r.at + ahead}
			}
			return done{x, r.want, r.count + ahead + behind, r.at + ahead + behind}
		}
		wantDone(t, ends("wait g . "+r.x, 1, 1))
		wantDone(t, ends("let $z = 9 in "+r.x, 2, 1))
		wantDone(t, ends("let $z = "+r.x+" in $z", 0, 3))
		// Of the XTry's own instructions one is ahead of its first part, and two are ahead of its second one, behind which CHalt comes.
		try := done{x: "try " + r.x + " else 77", count: r.count + 1, at: size + 3}
		switch out.Kind {
		case api.OValue:
			try.want, try.count = r.want, r.count+3
		case api.OFail:
			try.want, try.count = "77", r.count+3
		case api.OPanic:
			try.want, try.at = r.want, r.at+1
		}
		wantDone(t, try)
	}
}

func TestMake(t *testing.T) {
	for _, count := range []int{0, 1, 2, 255, api.MaxOps} {
		c := append(slices.Repeat(api.Code{one}, count), instr(api.CMake, count), halt)
		if out := finish(newOf(t, c)); !sameOutcome(out, valued(broad(count+1))) {
			t.Errorf("a list of %d: %s", count, brief(out))
		}
	}
	full, low := broad(api.MaxAtoms), deep(api.MaxNest)
	for _, r := range []struct {
		first, second api.Value
		fits          bool
	}{
		{broad(api.MaxAtoms - 2), broad(1), true}, {broad(api.MaxAtoms - 1), broad(1), false}, {broad(1), broad(api.MaxAtoms - 2), true}, {broad(1), full, false}, {full, full, false}, {broad(512), broad(511), true}, {broad(512), broad(512), false},
		{deep(api.MaxNest - 1), broad(1), true}, {low, broad(1), false}, {broad(1), deep(api.MaxNest - 1), true}, {broad(1), low, false},
	} {
		m := newOf(t, codeOf("force a; force b; make 2; halt"))
		m.Step()
		m.Give(valued(r.first))
		m.Step()
		m.Give(valued(r.second))
		want := outcome("value list")
		if r.fits {
			want = valued(slices.Concat(r.first, r.second, api.Value{{Kind: api.VList, N: 2}}))
		}
		if e := m.Step(); !sameOutcome(e.Outcome, want) {
			t.Errorf("a list of %d and %d atoms: %s", len(r.first), len(r.second), brief(e))
		}
	}
	wantPlayed(t, []played{
		{"int 1; int 2; int 3; make 2; gate g; int 4; past; make 3; halt", []string{"step", "gate g @4 #4 [1 [2, 3]]", "pass", "0 @4 #5 [1 [2, 3]]", "step", "ended [1, [2, 3], 4] @8 #9 []"}},
	})
}

// TestStackAndPlace looks at the stack between any two instructions, by a gate put there.
func TestStackAndPlace(t *testing.T) {
	wantPlayed(t, []played{
		{`text "x"; int 1; gate g; make 0; past; make 3; halt`, []string{"step", `gate g @2 #2 ["x" 1]`, "pass", `0 @2 #3 ["x" 1]`, "step", `ended ["x", 1, []] @6 #7 []`}},
		{"int 5; keep 0; load 0; load 0; gate g; load 0; past; make 3; leave 0; halt", []string{"step", "gate g @4 #4 [5 5]", "pass", "0 @4 #5 [5 5]", "step", "ended [5, 5, 5] @9 #10 []"}},
		{"int 1; int 2; int 3; do sub; gate g; int 0; past; make 3; halt", []string{"step", "gate g @4 #4 [1 -1]"}},
		{"int 1; int 2; else 4; jump 4; gate g; int 0; past; do sub; halt", []string{"step", "gate g @4 #4 [1]"}},
		{"int 1; int 0; else 4; jump 4; gate g; int 0; past; do sub; halt", []string{"step", "gate g @4 #3 [1]"}},
	})
}
