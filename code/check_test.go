package code_test

import (
	"math"
	"slices"
	"strconv"
	"testing"

	"onceweb/api"
	"onceweb/code"
)

// wantOf asks all calls that look over a code first what they tell of c: an error, and nothing else; or none, but ErrNone where no expression is.
func wantOf(t *testing.T, c api.Code, want api.Errno) {
	t.Helper()
	if e := code.Check(c); e != want {
		t.Errorf("Check(%s): %v, want %v", brief(c), e, want)
	}
	s, e := code.Print(c)
	if e != want || (s == "") != (want != api.OK) {
		t.Errorf("Print(%s): %s, %v; want %v", brief(c), brief(s), e, want)
	}
	if l, e := code.Asked(c); e != want || want != api.OK && len(l) != 0 {
		t.Errorf("Asked(%s): %s, %v; want %v", brief(c), brief(l), e, want)
	}
	x, e := code.Decompile(c)
	if want == api.OK && e == api.ErrNone {
		e = api.OK
	}
	if e != want || want != api.OK && len(x) != 0 {
		t.Errorf("Decompile(%s): %s, %v; want %v", brief(c), brief(x), e, want)
	}
}

func wantSound(t *testing.T, codes ...string) {
	t.Helper()
	for _, s := range codes {
		wantOf(t, codeOf(s), api.OK)
	}
}

func wantUnsound(t *testing.T, codes ...string) {
	t.Helper()
	for _, s := range codes {
		wantOf(t, codeOf(s), api.ErrCode)
	}
}

var (
	one  = api.Instr{Op: api.CInt, A: 1}
	halt = api.Instr{Op: api.CHalt}
)

// sums is a sound code of so many instructions, an even number of them.
func sums(size int) api.Code {
	c := api.Code{one}
	for len(c) < size-1 {
		c = append(c, one, api.Instr{Op: api.CDo, A: api.XAdd})
	}
	return append(c, halt)
}

// 9.1: Check

func TestLengths(t *testing.T) {
	wantOf(t, nil, api.ErrCode)
	wantOf(t, api.Code{}, api.ErrCode)
	wantOf(t, api.Code{halt}, api.ErrCode)
	wantOf(t, api.Code{one, halt}, api.OK)
	wantOf(t, sums(code.MaxCode), api.OK)
	wantOf(t, slices.Insert(sums(code.MaxCode), 1, api.Instr{Op: api.CJump, A: 2}), api.ErrLong)
	// How many they are comes ahead of what they are.
	wantOf(t, make(api.Code, code.MaxCode), api.ErrCode)
	wantOf(t, make(api.Code, code.MaxCode+1), api.ErrLong)
	wantOf(t, make(api.Code, api.MaxItems+1), api.ErrLong)
	wantOf(t, sums(code.MaxCode)[:code.MaxCode-1], api.ErrCode)
	wantOf(t, append(sums(code.MaxCode), halt), api.ErrLong)
	if code.MaxCode != 1024 {
		t.Errorf("MaxCode is %d", code.MaxCode)
	}
}

func TestHalts(t *testing.T) {
	wantSound(t, "int 1; halt", "int 1; jump 2; halt", `text "x"; fail; halt`, `text "x"; panic; halt`)
	wantUnsound(t, "halt; halt", "int 1; halt; halt", "int 1; halt; int 1; halt", "int 1; jump 3; halt; halt", `text "x"; fail; halt; halt`, "int 1", "int 1; int 1", "int 1; jump 1", `text "x"; fail`, "int 1; halt; past", "int 1; past", "int 1; done", "int 1; halt; int 1")
	// Another height than one, or something that is not over.
	wantUnsound(t, "halt", "int 1; int 1; halt", "int 1; int 1; int 1; halt", "int 1; keep 0; halt", "int 1; int 1; keep 0; halt", "gate g; int 1; halt", "try 2; int 1; halt", "gate g; int 1; past; gate g; halt", "int 1; gate g; halt", "int 1; keep 0; int 1; halt")
}

// alone is a code that is sound just if in, which stands at the place 2 and can not be come to, is well formed.
func alone(in api.Instr) api.Code { return api.Code{one, {Op: api.CJump, A: 3}, in, halt} }

// wantFormed asks whether in is well formed, by a place that can not be come to.
func wantFormed(t *testing.T, formed bool, all ...api.Instr) {
	t.Helper()
	want := api.ErrCode
	if formed {
		want = api.OK
	}
	for _, in := range all {
		wantOf(t, alone(in), want)
	}
}

func TestOps(t *testing.T) {
	for _, op := range []int{0, -1, api.CPast + 1, 99, math.MaxInt, math.MinInt, -api.CInt} {
		wantFormed(t, false, api.Instr{Op: op}, api.Instr{Op: op, A: 3}, api.Instr{Op: op, Text: "a"})
		wantOf(t, api.Code{{Op: op}, one, halt}, api.ErrCode)
		wantOf(t, api.Code{one, {Op: op}}, api.ErrCode)
		wantOf(t, api.Code{{Op: op}}, api.ErrCode)
	}
	wantFormed(t, false, halt)
}

// numbers are A at the edges of what some instruction may have, and just past them.
var numbers = []int{math.MinInt, math.MinInt + 1, -api.MaxInt - 1, -api.MaxInt, -5, -1, 0, 1, 2, 3, 4, 5, 6, 7, 11, 12, 13, 14, 16, 17, 19, api.MaxOps - 1, api.MaxOps, api.MaxOps + 1, code.MaxCode - 1, code.MaxCode, code.MaxCode + 1, api.MaxInt, api.MaxInt + 1, math.MaxInt - 1, math.MaxInt}

// texts are Texts, names and others.
var texts = append([]string{"a", "z", "x_1", "a0", "a_", "cells", "ifs", longName, longText, "\x00", "\xff\n\"", "add"}, noNames...)

// mayHave is the least and the most A that an instruction of that kind may have at the place 2 of 4.
func mayHave(op int) (least, most int) {
	switch op {
	case api.CInt:
		return -api.MaxInt, api.MaxInt
	case api.CLoad, api.CKeep, api.CLeave:
		return 0, api.MaxOps - 1
	case api.CMake:
		return 0, api.MaxOps
	case api.CDo:
		return api.XAdd, api.XSame
	case api.CElse, api.CJump, api.CTry:
		return 3, 3
	}
	return 0, 0
}

// rightText tells whether an instruction of that kind may have that text, one of texts.
func rightText(op int, s string) bool {
	switch op {
	case api.CText:
		return s != longText+"x"
	case api.CForce, api.CGate:
		return slices.Index(texts, s) < 8 || s == "add"
	}
	return s == ""
}

func TestEachOpWithEachNumberAndText(t *testing.T) {
	for op := api.CInt; op <= api.CPast; op++ {
		least, most := mayHave(op)
		for _, n := range numbers {
			for _, s := range texts {
				in := api.Instr{Op: op, A: n, Text: s}
				wantFormed(t, n >= least && n <= most && rightText(op, s) && op != api.CHalt, in)
			}
		}
	}
	// Where it is come to, it must be well formed too.
	wantOf(t, api.Code{{Op: api.CInt, A: 1, Text: "a"}, halt}, api.ErrCode)
	wantOf(t, api.Code{one, {Op: api.CHalt, A: 1}}, api.ErrCode)
	wantOf(t, api.Code{one, {Op: api.CHalt, Text: "a"}}, api.ErrCode)
	wantOf(t, api.Code{{Op: api.CForce, Text: "a", A: 1}, halt}, api.ErrCode)
}

func TestPlacesOfJumps(t *testing.T) {
	// At a place that can not be come to, each of the code's places, and some that it has not.
	for _, op := range []int{api.CElse, api.CJump, api.CTry} {
		for at := 2; at < 6; at++ {
			for _, to := range []int{math.MinInt, -1, 0, 1, 2, 3, 4, 5, 6, 7, 8, math.MaxInt} {
				c := api.Code{one, {Op: api.CJump, A: 6}, one, one, one, one, halt}
				c[at] = api.Instr{Op: op, A: to}
				want := api.OK
				if to <= at || to > 6 {
					want = api.ErrCode
				}
				wantOf(t, c, want)
			}
		}
	}
	wantSound(t, "int 1; jump 2; halt", "jump 1; int 1; halt", "int 1; else 2; int 1; halt", "int 1; else 3; jump 3; int 1; halt", "try 4; int 1; done; jump 5; int 2; halt")
	wantUnsound(t,
		"int 1; jump 1; halt", "int 1; jump 0; halt", "int 1; jump 3; halt", "int 1; jump -1; halt", "jump 0; int 1; halt",
		"int 1; else 1; int 1; halt", "int 1; else 0; int 1; halt", "int 1; else 4; int 1; halt", "int 1; else 3; int 1; halt",
		"try 0; int 1; done; jump 5; int 2; halt", "try 6; int 1; done; jump 5; int 2; halt", "int 0; try 1; int 1; done; jump 6; int 2; do add; halt")
}

func TestPlacesWithTwoStates(t *testing.T) {
	// Another height of the stack.
	wantUnsound(t, "int 1; else 3; int 1; halt", "int 1; else 4; int 1; int 1; halt", "int 1; int 1; else 4; int 1; halt", "int 1; else 4; int 1; jump 6; int 1; int 2; halt", "try 3; int 1; done; halt", "try 4; int 1; done; jump 6; int 1; int 2; halt")
	wantSound(t, "int 1; else 4; int 1; jump 5; int 2; halt", "int 1; else 5; int 1; int 2; fail; int 2; halt", "int 7; int 1; else 3; halt", "int 7; int 1; else 5; int 2; do add; halt")
	// Something is not over in one of two ways, or another thing is.
	wantUnsound(t,
		"int 0; int 1; else 4; keep 0; int 2; halt", "int 0; int 1; else 5; keep 0; int 3; halt", "int 1; else 3; gate g; int 1; halt", "int 1; else 4; gate g; jump 4; int 1; halt",
		"int 1; else 5; int 2; keep 0; jump 6; gate g; int 1; past; halt", "int 1; else 5; int 2; keep 0; jump 6; gate g; int 1; leave 0; halt", "int 1; else 4; gate g; jump 5; try 8; int 1; past; jump 9; int 2; halt", "int 1; else 4; gate g; jump 5; try 8; int 1; done; jump 9; int 2; halt",
		// In another order.
		"int 1; else 6; gate g; int 2; keep 0; jump 9; int 2; keep 0; gate g; int 3; past; leave 0; halt")
	// CTrys that go to different places, each of which may be come to so; or to one place.
	wantUnsound(t, "int 1; else 4; try 8; jump 5; try 10; int 1; done; jump 11; int 2; jump 11; int 3; halt", "int 1; else 4; try 10; jump 5; try 8; int 1; done; jump 11; int 2; jump 11; int 3; halt", "int 1; else 4; try 7; jump 5; try 9; int 1; fail; int 2; jump 10; int 3; halt")
	wantSound(t, "int 1; else 4; try 8; jump 5; try 8; int 1; done; jump 11; int 2; jump 11; int 3; halt", "int 1; else 4; try 10; jump 5; try 10; int 1; done; jump 11; int 2; jump 11; int 3; halt", "int 1; else 4; try 9; jump 5; try 9; int 1; fail; int 2; jump 10; int 3; halt", "int 1; else 4; try 8; jump 5; try 8; int 1; done; jump 9; int 2; halt")
	// The stack was of another height at a CTry, a CGate; at a CKeep it does not count.
	wantUnsound(t, "int 0; int 1; else 6; gate g; int 2; jump 8; int 2; gate g; past; do add; halt", "int 0; int 1; else 6; try 10; int 2; jump 8; int 2; try 10; done; jump 11; int 2; halt")
	wantSound(t, "int 0; int 1; else 7; int 5; keep 0; int 6; jump 10; int 6; int 5; keep 0; do add; leave 0; halt", "int 0; int 1; else 7; int 5; keep 0; load 0; jump 11; int 6; int 5; keep 0; jump 11; do add; leave 0; halt")
	// Of gates and of locals nothing else counts.
	wantSound(t, "int 1; else 4; gate g; jump 5; gate h; int 1; past; halt", "int 1; else 4; gate door; jump 5; gate g; int 1; past; halt", `int 1; else 5; force a; keep 0; jump 7; text "x"; keep 0; load 0; leave 0; halt`)
}

func TestPlacesThatCanNotBeComeTo(t *testing.T) {
	for _, in := range []string{"int 5", `text "x"`, "force a", "load 0", "load 255", "keep 0", "keep 9", "leave 0", "leave 255", "make 0", "make 256", "do add", "do size", "else 4", "jump 4", "try 4", "done", "fail", "panic", "gate g", "past"} {
		wantSound(t, "int 1; jump 4; int 7; "+in+"; halt", "int 1; fail; halt", "int 1; fail; int 7; "+in+"; halt", "int 1; panic; int 7; "+in+"; halt", "int 1; jump 4; "+in+"; "+in+"; halt")
	}
	for _, in := range []string{"load 256", "load -1", "keep 256", "keep -1", "leave 256", "leave -1", "make 257", "make -1", "do nothing", "else 3", "jump 3", "try 3", "jump 5", "else 5", "try 5", "force A", "gate if", "int 9007199254740993", "halt"} {
		wantUnsound(t, "int 1; jump 4; int 7; "+in+"; halt", "int 1; fail; int 7; "+in+"; halt", "int 1; panic; int 7; "+in+"; halt")
	}
	// What can not be come to leads nowhere.
	wantSound(t, "int 1; jump 4; int 1; jump 5; jump 6; int 2; halt", "int 1; jump 5; keep 0; int 1; jump 5; halt", "int 1; fail; try 3; halt", "int 1; jump 5; gate g; int 1; else 5; halt", "jump 2; gate g; int 1; halt")
	// What can be come to by one way alone: by a CElse, a CTry, a CJump.
	wantUnsound(t, "int 1; else 4; int 2; fail; do add; halt", "try 3; int 1; fail; do add; halt", "jump 2; int 1; do add; halt")
	wantSound(t, "int 1; else 4; int 2; fail; int 2; halt", "try 3; int 1; fail; int 2; halt", "try 3; int 1; panic; int 2; halt")
}

func TestTooLittleOnTheStack(t *testing.T) {
	wantUnsound(t,
		"keep 0; int 1; leave 0; halt", "make 1; halt", "int 1; make 2; halt", "do add; halt", "int 1; do add; halt", "do size; halt", "else 2; int 1; halt", "else 1; int 1; halt", "fail; halt", "panic; halt", "make 256; halt", "int 1; keep 0; load 0; do add; leave 0; halt", "int 1; keep 0; leave 0; fail; halt", "int 1; else 2; fail; halt")
	for _, word := range doWords {
		if word == "size" {
			wantSound(t, "int 1; do size; halt")
			wantUnsound(t, "do size; halt", "int 1; int 1; do size; halt")
		} else {
			wantSound(t, "int 1; int 1; do "+word+"; halt")
			wantUnsound(t, "do "+word+"; halt", "int 1; do "+word+"; halt", "int 1; int 1; int 1; do "+word+"; halt")
		}
	}
	wantSound(t, "make 0; halt", "int 1; make 1; halt", "int 1; make 0; make 2; halt", "int 1; int 2; make 2; halt")
	full := func(n, made int) api.Code {
		return append(slices.Repeat(api.Code{one}, n), api.Instr{Op: api.CMake, A: made}, halt)
	}
	wantOf(t, full(api.MaxOps, api.MaxOps), api.OK)
	wantOf(t, full(api.MaxOps-1, api.MaxOps), api.ErrCode)
	wantOf(t, full(api.MaxOps+1, api.MaxOps), api.ErrCode)
	wantOf(t, full(api.MaxOps+1, api.MaxOps+1), api.ErrCode)
}

// within is a code with that body within a CTry, and one with it within a CGate, both behind two numbers; of these, and of what the body makes, a list is made.
func within(body string) []string {
	n := len(codeOf(body))
	return []string{
		"int 8; int 9; try " + strconv.Itoa(n+5) + "; " + body + "; done; jump " + strconv.Itoa(n+6) + "; int 2; make 3; halt",
		"int 8; int 9; gate g; " + body + "; past; make 3; halt",
	}
}

func TestWhatStoodThereAtATryOrAGate(t *testing.T) {
	for _, body := range []string{"int 1", "int 1; int 1; do add", "int 1; make 1", "make 0", "int 1; keep 0; load 0; leave 0", "int 1; fail", "int 1; panic", "int 1; do size", "int 1; jump 5", "int 1; keep 0; int 1; leave 0", "int 1; else 5; int 1"} {
		wantSound(t, within(body)...)
	}
	for _, body := range []string{"do add", "int 1; do add", "make 1", "int 1; make 2", "do size", "keep 0; int 1; leave 0", "fail", "panic", "else 4; int 1", "int 1; keep 0; do size; leave 0", "int 1; keep 0; load 0; do add; leave 0", "int 1; keep 0; keep 1; leave 1; leave 0", "int 1; keep 0; fail", "int 1; keep 0; panic"} {
		wantUnsound(t, within(body)...)
	}
	// The last one of several counts; behind it the one ahead of it counts again.
	wantUnsound(t, "int 8; gate g; int 9; gate h; int 1; do add; past; do add; past; halt", "int 8; gate g; int 9; gate h; int 1; past; do add; do add; past; halt", "int 8; gate g; int 9; keep 0; gate h; int 1; past; leave 0; do add; past; halt")
	wantSound(t, "int 8; gate g; int 9; gate h; int 1; past; do add; past; do add; halt", "int 8; gate g; int 9; keep 0; gate h; load 0; past; leave 0; past; do add; halt", "int 8; gate g; int 9; past; do add; halt")
	// A CKeep does not hide what stood there.
	wantSound(t, "int 8; int 9; keep 0; do size; leave 0; halt", "int 7; int 8; int 9; keep 0; do add; leave 0; halt")
	// The place of a CTry is come to with the state ahead of it.
	wantSound(t, "int 8; try 5; int 1; done; jump 6; int 2; do add; halt", "int 8; try 4; int 1; fail; do size; halt", "int 8; keep 0; try 5; int 1; fail; load 0; leave 0; halt", "gate g; int 8; keep 0; try 6; int 1; fail; load 0; leave 0; past; halt")
	wantUnsound(t, "try 3; int 1; fail; done; halt", "int 8; try 4; int 1; fail; done; halt", "try 4; int 1; keep 0; fail; leave 0; halt", "try 4; gate g; int 1; fail; past; halt", "try 3; int 1; fail; halt")
}

func TestWhatEnds(t *testing.T) {
	// Where nothing is to end.
	wantUnsound(t, "int 1; done; halt", "int 1; leave 0; halt", "int 1; past; halt", "done; int 1; halt", "past; int 1; halt", "leave 0; int 1; halt", "gate g; int 1; past; past; halt", "int 1; keep 0; leave 0; leave 0; int 1; halt", "int 1; keep 0; int 1; leave 0; leave 0; halt", "try 5; int 1; done; done; jump 6; int 2; halt")
	// Where something of another kind is.
	wantUnsound(t,
		"gate g; int 1; done; halt", "gate g; int 1; leave 0; halt", "try 4; int 1; past; jump 5; int 2; halt", "try 4; int 1; leave 0; jump 5; int 2; halt", "int 1; keep 0; int 1; done; halt", "int 1; keep 0; int 1; past; halt",
		"int 1; keep 0; gate g; int 1; leave 0; past; halt", "gate g; int 1; keep 0; int 1; past; leave 0; halt", "gate g; try 6; int 1; past; done; jump 7; int 2; halt", "try 6; gate g; int 1; done; past; jump 7; int 2; halt", "try 7; int 1; keep 0; int 1; done; leave 0; jump 8; int 2; halt", "int 1; keep 0; try 6; int 1; leave 0; done; jump 7; int 2; leave 0; halt")
	// With another height of the stack.
	wantUnsound(t, "gate g; past; int 1; halt", "gate g; int 1; int 1; past; do add; halt", "try 5; done; int 1; jump 6; int 1; int 2; halt", "try 3; done; jump 3; int 1; halt", "try 6; int 1; int 1; done; do add; jump 7; int 2; halt", "int 1; gate g; past; halt", "int 1; try 3; done; halt", "int 1; try 4; done; jump 4; halt", "int 8; gate g; int 1; keep 0; leave 0; past; halt")
	wantSound(t, "gate g; int 1; past; halt", "int 8; gate g; int 1; past; do add; halt", "try 4; int 1; done; jump 5; int 2; halt", "int 8; try 5; int 1; done; jump 6; int 2; do add; halt")
	// A CLeave asks for no height.
	wantSound(t, "int 1; keep 0; leave 0; int 1; halt", "int 1; keep 0; int 1; int 2; leave 0; do add; halt", "int 1; keep 0; load 0; leave 0; halt")
	// One inside another, in their order.
	wantSound(t, "gate g; try 8; int 1; keep 0; load 0; leave 0; done; jump 9; int 2; past; halt", "int 1; keep 0; gate g; try 7; load 0; done; jump 8; int 2; past; leave 0; halt")
}

func TestNumbersOfLocals(t *testing.T) {
	keeps := func(number string) string { return "int 1; keep " + number + "; int 1; leave " + number + "; halt" }
	wantSound(t, keeps("0"), "int 1; keep 0; int 1; keep 1; load 0; load 1; do add; leave 1; leave 0; halt", "int 1; keep 0; int 1; leave 0; keep 0; load 0; leave 0; halt")
	wantUnsound(t,
		keeps("1"), keeps("255"), "int 1; keep 0; int 1; keep 0; int 1; leave 0; leave 0; halt", "int 1; keep 0; int 1; keep 2; int 1; leave 2; leave 0; halt", "int 1; keep 0; int 1; keep 0; int 1; leave 1; leave 0; halt", "int 1; keep 0; int 1; leave 0; keep 1; load 0; leave 1; halt",
		"int 1; keep 0; int 1; leave 1; halt", "int 1; keep 0; int 1; keep 1; int 1; leave 0; leave 1; halt", "int 1; keep 0; int 1; keep 1; int 1; leave 0; leave 0; halt", "int 1; keep 0; int 1; keep 1; int 1; leave 1; leave 1; halt", "int 1; keep 0; int 1; keep 1; int 1; leave 2; leave 0; halt",
		"load 0; halt", "int 1; keep 0; load 1; leave 0; halt", "int 1; keep 0; int 1; leave 0; load 0; do add; halt", "load 0; keep 0; int 1; leave 0; halt", "int 1; keep 0; int 1; keep 1; load 2; leave 1; leave 0; halt", "int 1; keep 0; int 1; keep 1; int 1; leave 1; load 1; do add; leave 0; halt")
	// CTrys and CGates do not count among them, and what is kept within a CTry is over at its place.
	wantSound(t, "int 1; keep 0; gate g; int 1; keep 1; load 0; leave 1; past; leave 0; halt", "try 7; int 1; keep 0; load 0; leave 0; done; jump 11; int 2; keep 0; load 0; leave 0; halt")
	wantUnsound(t, "int 1; keep 0; gate g; int 1; keep 2; load 0; leave 2; past; leave 0; halt", "gate g; int 1; keep 1; load 0; leave 1; past; halt", "try 4; int 1; keep 0; fail; load 0; halt", "try 5; int 1; keep 0; int 1; fail; int 2; keep 1; load 0; leave 1; halt")
	// As many as an instruction may tell, and one more.
	many := func(n int) api.Code {
		var c api.Code
		for i := range n {
			c = append(c, one, api.Instr{Op: api.CKeep, A: i})
		}
		c = append(c, api.Instr{Op: api.CLoad, A: n - 1})
		for i := range n {
			c = append(c, api.Instr{Op: api.CLeave, A: n - 1 - i})
		}
		return append(c, halt)
	}
	wantOf(t, many(api.MaxOps), api.OK)
	wantOf(t, many(api.MaxOps+1), api.ErrCode)
}

func TestFailuresGoOnNowhere(t *testing.T) {
	for _, word := range []string{"fail", "panic"} {
		wantSound(t, "int 1; "+word+"; halt", "int 1; int 2; "+word+"; halt", "int 1; keep 0; int 2; "+word+"; halt", "gate g; int 2; "+word+"; halt", "int 1; "+word+"; done; past; leave 7; do add; halt", "try 3; int 1; "+word+"; int 2; halt", "int 1; else 4; int 2; "+word+"; int 3; halt")
		wantUnsound(t, word+"; halt", "gate g; "+word+"; halt", "int 1; gate g; "+word+"; halt", "int 1; "+word+"; "+word, "int 1; try 3; "+word+"; halt")
	}
}

func TestManyAtOnce(t *testing.T) {
	const half = code.MaxCode/2 - 1
	repeat := func(in api.Instr) api.Code { return slices.Repeat(api.Code{in}, half) }
	gates := slices.Concat(repeat(api.Instr{Op: api.CGate, Text: "g"}), api.Code{one}, repeat(api.Instr{Op: api.CPast}), api.Code{halt})
	wantOf(t, gates, api.OK)
	wantOf(t, slices.Delete(slices.Clone(gates), half+1, half+2), api.ErrCode)
	// Every second one leads to one place, all in the same state.
	var c api.Code
	for range half - 1 {
		c = append(c, one, api.Instr{Op: api.CElse, A: 2*half - 1})
	}
	c = append(c, api.Instr{Op: api.CJump, A: 2*half - 1}, one, halt)
	wantOf(t, c, api.OK)
	c[2*half-2] = one
	wantOf(t, c, api.ErrCode)
}
