package machine_test

import (
	"slices"
	"strings"
	"testing"

	"onceweb/api"
	"onceweb/machine"
)

// 10.2: where it fails, and where it panics

func TestFailsWithoutTry(t *testing.T) {
	wantPlayed(t, []played{
		{"1 + a", []string{"step", "cell a @1 #1 [1]", `give fail "x"`, "0 @1 #2 [1]", "step", `ended fail "x" @1 #2 []`}},
		{"1 + a", []string{"step", "cell a @1 #1 [1]", `give "x"`, "0 @1 #2 [1]", "step", "ended value add @2 #3 []"}},
		{"1 + a", []string{"step", "cell a @1 #1 [1]", `give cell b: join(fail "x"; token "t": panic "p")`, "0 @1 #2 [1]", "step", `ended cell b: join(fail "x"; token "t": panic "p") @1 #2 []`}},
		{"1 + fail(a)", []string{"step", "cell a @1 #1 [1]", `give "x"`, "0 @1 #2 [1]", "step", `ended fail "x" @2 #3 []`}},
		{"wait g . fail(a)", []string{"step", "gate g @0 #0 []", "pass", "0 @0 #1 []", "step", "cell a @1 #1 []", "give 1", "0 @1 #2 []", "step", "ended value fail @2 #3 []"}},
	})
}

func TestFailsWithinOneTry(t *testing.T) {
	// int 9; int 5; keep 0; try 14; int 7; int 6; keep 1; force a; load 1; do add; leave 1; make 2; done; jump 17; load 0; force b; make 2; leave 0; make 2; halt
	x := "[9, let $x = 5 in try [7, let $y = 6 in a + $y] else [$x, b]]"
	// Given a failure, it fails there; given what can not be added, two instructions later.
	for _, r := range []struct{ give, met, given, end string }{
		{`fail "x"`, "#9", "#10", "#14"}, {"none a", "#9", "#10", "#14"}, {"join(depth; long)", "#9", "#10", "#14"}, {`"t"`, "#11", "#12", "#16"}, {"[]", "#11", "#12", "#16"},
	} {
		wantPlayed(t, []played{
			{x, []string{"step", "cell a @7 #7 [9 7]", "give " + r.give, "0 @7 #8 [9 7]", "step", "cell b @15 " + r.met + " [9 5]", "give 3", "0 @15 " + r.given + " [9 5]", "step", "ended [9, [5, 3]] @19 " + r.end + " []"}},
		})
	}
	wantPlayed(t, []played{
		{x, []string{"step", "cell a @7 #7 [9 7]", "give 1", "0 @7 #8 [9 7]", "step", "ended [9, [7, 7]] @19 #17 []"}},
		// One that was met is over: what fails behind it is not caught.
		{x, []string{"step", "cell a @7 #7 [9 7]", "give closed", "0 @7 #8 [9 7]", "step", "cell b @15 #9 [9 5]", "give depth", "0 @15 #10 [9 5]", "step", "ended depth @15 #10 []"}},
		// So is one that was come through.
		{"(try 1 else 2) + a", []string{"step", "cell a @5 #4 [1]", "give depth", "0 @5 #5 [1]", "step", "ended depth @5 #5 []"}},
		// The gate and the local within are not over where it fails, and are where it goes on.
		{"let $x = 5 in try let $y = 6 in wait g . [a, $y] else let $z = 7 in [$x, $z, b]", []string{"step", "gate g @5 #5 []", "pass", "0 @5 #6 []", "step", "cell a @6 #6 []", "give cycle b", "0 @6 #7 []", "step", "cell b @17 #11 [5 7]", "give 1", "0 @17 #12 [5 7]", "step", "ended [5, 7, 1] @21 #16 []"}},
	})
}

func TestFailsWithinTwoTries(t *testing.T) {
	// try 14; int 8; try 8; int 7; force a; make 2; done; jump 11; int 6; force b; make 2; make 2; done; jump 17; int 5; force c; make 2; halt
	x := "try [8, try [7, a] else [6, b]] else [5, c]"
	wantPlayed(t, []played{
		{x, []string{"step", "cell a @4 #4 [8 7]", "give 1", "0 @4 #5 [8 7]", "step", "ended [8, [7, 1]] @17 #12 []"}},
		{x, []string{"step", "cell a @4 #4 [8 7]", `give fail "x"`, "0 @4 #5 [8 7]", "step", "cell b @9 #6 [8 6]", "give 2", "0 @9 #7 [8 6]", "step", "ended [8, [6, 2]] @17 #12 []"}},
		{x, []string{"step", "cell a @4 #4 [8 7]", `give fail "x"`, "0 @4 #5 [8 7]", "step", "cell b @9 #6 [8 6]", `give fail "y"`, "0 @9 #7 [8 6]", "step", "cell c @15 #8 [5]", "give 3", "0 @15 #9 [5]", "step", "ended [5, 3] @17 #11 []"}},
		{x, []string{"step", "cell a @4 #4 [8 7]", `give fail "x"`, "0 @4 #5 [8 7]", "step", "cell b @9 #6 [8 6]", `give fail "y"`, "0 @9 #7 [8 6]", "step", "cell c @15 #8 [5]", `give fail "z"`, "0 @15 #9 [5]", "step", `ended fail "z" @15 #9 []`}},
		// The locals of each CTry's own time.
		{"let $x = 1 in try let $y = 2 in try let $z = 3 in a + $z else b + $y else c + $x", []string{"step", "cell a @8 #8 []", `give "t"`, "0 @8 #9 []", "step", "cell b @14 #11 []", `give "t"`, "0 @14 #12 []", "step", "cell c @20 #14 []", "give 4", "0 @20 #15 []", "step", "ended 5 @24 #19 []"}},
	})
}

func TestPanics(t *testing.T) {
	x := "try [8, try [7, a] else [6, b]] else [5, c]"
	wantPlayed(t, []played{
		{"1 + a", []string{"step", "cell a @1 #1 [1]", `give panic "oh"`, "0 @1 #2 [1]", "step", `ended panic "oh" @1 #2 []`}},
		{"1 + panic(a)", []string{"step", "cell a @1 #1 [1]", `give "oh"`, "0 @1 #2 [1]", "step", `ended panic "oh" @2 #3 []`}},
		// No CTry keeps it from its end.
		{x, []string{"step", "cell a @4 #4 [8 7]", `give panic "oh"`, "0 @4 #5 [8 7]", "step", `ended panic "oh" @4 #5 []`}},
		{x, []string{"step", "cell a @4 #4 [8 7]", "give closed", "0 @4 #5 [8 7]", "step", "cell b @9 #6 [8 6]", `give panic ""`, "0 @9 #7 [8 6]", "step", `ended panic "" @9 #7 []`}},
		{`try [1, panic("oh")] else 2`, []string{"step", `ended panic "oh" @3 #4 []`}},
		{`try try panic("oh") else 1 else 2`, []string{"step", `ended panic "oh" @3 #4 []`}},
		{`try wait g . let $x = 1 in panic("oh") else 2`, []string{"step", "gate g @1 #1 []", "pass", "0 @1 #2 []", "step", `ended panic "oh" @5 #6 []`}},
		// What is no text is no panic.
		{"try panic(1) else 2", []string{"step", "ended 2 @6 #5 []"}},
	})
}

// TestFailureThatIsAPanic: an OFail whose failure's whole is a FPanic is a failure all the same.
func TestFailureThatIsAPanic(t *testing.T) {
	odd := api.Outcome{Kind: api.OFail, Fail: api.Fail{{Kind: api.FPanic, Text: "odd"}}}
	m := newOf(t, codeFor("a"))
	m.Step()
	if e := m.Give(odd); e != api.OK {
		t.Errorf("Give: %v", e)
	}
	if e := m.Step(); !sameEvent(e, api.Event{Kind: api.EEnded, Outcome: odd}) {
		t.Errorf("%v", e)
	}
	m = newOf(t, codeFor("try a else 1"))
	m.Step()
	m.Give(odd)
	if e := m.Step(); eventText(e) != "ended 1" {
		t.Errorf("%v", e)
	}
}

// 10.2: Step told again

func TestStepAgain(t *testing.T) {
	wantPlayed(t, []played{
		{"[1, a]", []string{"step", "cell a @1 #1 [1]", "step", "cell a @1 #1 [1]", "step", "cell a @1 #1 [1]", "give 2", "0 @1 #2 [1]", "step", "ended [1, 2] @3 #4 []", "step", "ended [1, 2] @3 #4 []", "step", "ended [1, 2] @3 #4 []"}},
		{"[1, wait g . 2]", []string{"step", "gate g @1 #1 [1]", "step", "gate g @1 #1 [1]", "pass", "0 @1 #2 [1]", "step", "ended [1, 2] @5 #6 []", "step", "ended [1, 2] @5 #6 []"}},
		{"[1, a]", []string{"step", "cell a @1 #1 [1]", "give closed", "0 @1 #2 [1]", "step", "ended closed @1 #2 []", "step", "ended closed @1 #2 []"}},
		{"[1, a]", []string{"step", "cell a @1 #1 [1]", `give panic "p"`, "0 @1 #2 [1]", "step", `ended panic "p" @1 #2 []`, "step", `ended panic "p" @1 #2 []`}},
		// The same name, and the same gate, is wanted anew each time.
		{"a + a", []string{"step", "cell a @0 #0 []", "step", "cell a @0 #0 []", "give 1", "0 @0 #1 []", "step", "cell a @1 #1 [1]", "step", "cell a @1 #1 [1]", "give 2", "0 @1 #2 [1]", "step", "ended 3 @3 #4 []"}},
		{"wait g . wait g . 1", []string{"step", "gate g @0 #0 []", "pass", "0 @0 #1 []", "step", "gate g @1 #1 []", "pass", "0 @1 #2 []", "step", "ended 1 @5 #6 []"}},
	})
}

// 10.3: Give and Pass, refused

func TestNotNow(t *testing.T) {
	wantPlayed(t, []played{
		// Ahead of any Step, what comes first is not wanted yet.
		{"a", []string{"give 1", "7 @0 #0 []", "pass", "7 @0 #0 []", "step", "cell a @0 #0 []", "pass", "7 @0 #0 []", "give 1", "0 @0 #1 []", "give 2", "7 @0 #1 []", "pass", "7 @0 #1 []", "step", "ended 1 @1 #2 []", "give 3", "7 @1 #2 []", "pass", "7 @1 #2 []", "step", "ended 1 @1 #2 []"}},
		{"wait g . 1", []string{"pass", "7 @0 #0 []", "give 1", "7 @0 #0 []", "step", "gate g @0 #0 []", "give 2", "7 @0 #0 []", "pass", "0 @0 #1 []", "pass", "7 @0 #1 []", "give 3", "7 @0 #1 []", "step", "ended 1 @3 #4 []", "pass", "7 @3 #4 []", "give 4", "7 @3 #4 []", "step", "ended 1 @3 #4 []"}},
		{"a + b", []string{"step", "cell a @0 #0 []", "give 1", "0 @0 #1 []", "give 2", "7 @0 #1 []", "step", "cell b @1 #1 [1]", "pass", "7 @1 #1 [1]", "give 4", "0 @1 #2 [1]", "give 8", "7 @1 #2 [1]", "step", "ended 5 @3 #4 []"}},
		{"wait g . wait h . a", []string{"step", "gate g @0 #0 []", "pass", "0 @0 #1 []", "pass", "7 @0 #1 []", "step", "gate h @1 #1 []", "give 1", "7 @1 #1 []", "pass", "0 @1 #2 []", "give 1", "7 @1 #2 []", "step", "cell a @2 #2 []", "pass", "7 @2 #2 []", "give 1", "0 @2 #3 []", "step", "ended 1 @5 #6 []"}},
		// Ended by a failure, by a panic: of its own, and given.
		{`fail("x")`, []string{"step", `ended fail "x" @1 #2 []`, "give 1", "7 @1 #2 []", "pass", "7 @1 #2 []", "step", `ended fail "x" @1 #2 []`}},
		{`panic("x")`, []string{"step", `ended panic "x" @1 #2 []`, "give 1", "7 @1 #2 []", "pass", "7 @1 #2 []", "step", `ended panic "x" @1 #2 []`}},
		{"a", []string{"step", "cell a @0 #0 []", "give depth", "0 @0 #1 []", "give 1", "7 @0 #1 []", "pass", "7 @0 #1 []", "step", "ended depth @0 #1 []", "give 1", "7 @0 #1 []", "pass", "7 @0 #1 []", "step", "ended depth @0 #1 []"}},
		{"a", []string{"step", "cell a @0 #0 []", `give panic "p"`, "0 @0 #1 []", "give 1", "7 @0 #1 []", "pass", "7 @0 #1 []", "step", `ended panic "p" @0 #1 []`, "give 1", "7 @0 #1 []", "pass", "7 @0 #1 []", "step", `ended panic "p" @0 #1 []`}},
	})
}

func textAtom(s string) api.Atom { return api.Atom{Kind: api.VText, Text: s} }

// wrongValues, wrongFails and wrongOutcomes are not right, one for each thing that may be wrong.
func wrongValues() []api.Value {
	return []api.Value{
		nil, {}, {{}}, {{Kind: 4}}, {{Kind: -1}}, {{Kind: api.VInt, N: 1}}, {{Kind: api.VInt, Int: api.MaxInt + 1}}, {{Kind: api.VInt, Int: -api.MaxInt - 1}}, {{Kind: api.VInt, Text: "x"}},
		{{Kind: api.VText, Int: 1}}, {{Kind: api.VText, N: 1}}, {textAtom(longText + "x")}, {{Kind: api.VList, N: 1}}, {{Kind: api.VList, N: -1}}, {{Kind: api.VList, Int: 1}}, {{Kind: api.VList, Text: "x"}},
		{textAtom("a"), textAtom("b")}, {textAtom("a"), {Kind: api.VList}}, {textAtom("a"), {Kind: api.VList, N: 2}}, {textAtom("a"), {Kind: 9}, {Kind: api.VList, N: 2}},
		broad(api.MaxAtoms + 1), deep(api.MaxNest + 1),
	}
}

func wrongFails() []api.Fail {
	return []api.Fail{
		nil, {}, {{}}, {{Kind: 12}}, {{Kind: -1}}, {{Kind: api.FRaise, N: 1}}, {{Kind: api.FRaise, N: -1}}, {{Kind: api.FRaise, Text: longText + "x"}}, {{Kind: api.FPanic, Text: longText + "x"}}, {{Kind: api.FValue}}, {{Kind: api.FValue, Text: "less"}}, {{Kind: api.FNone}}, {{Kind: api.FNone, Text: "A"}}, {{Kind: api.FCycle, Text: "if"}},
		{{Kind: api.FDepth, Text: "x"}}, {{Kind: api.FCell, N: 1, Text: "a"}}, {{Kind: api.FCell, Text: "a"}}, {{Kind: api.FDepth}, {Kind: api.FCell, N: 1}}, {{Kind: api.FJoin}}, {{Kind: api.FDepth}, {Kind: api.FDepth}}, {{Kind: api.FDepth}, {Kind: api.FToken, N: 2}},
		wide(api.MaxCracks + 1),
	}
}

func wrongOutcomes() []api.Outcome {
	v, f, p := outcome("1").Value, outcome("depth").Fail, outcome(`panic "p"`).Fail
	l := []api.Outcome{
		{}, {Kind: 4}, {Kind: -1}, {Value: v}, {Fail: f}, {Kind: 4, Value: v}, {Kind: -1, Fail: f},
		{Kind: api.OValue, Fail: f}, {Kind: api.OValue, Value: v, Fail: f}, {Kind: api.OValue, Value: v, Fail: p}, {Kind: api.OFail, Value: v}, {Kind: api.OFail, Value: v, Fail: f}, {Kind: api.OPanic, Value: v}, {Kind: api.OPanic, Value: v, Fail: p},
		{Kind: api.OPanic, Fail: f}, {Kind: api.OPanic, Fail: outcome(`cell a: panic "p"`).Fail}, {Kind: api.OPanic, Fail: outcome(`join(panic "p")`).Fail}, {Kind: api.OPanic, Fail: outcome(`token "t": panic "p"`).Fail}, {Kind: api.OPanic, Fail: slices.Concat(f, p)},
	}
	for _, v := range wrongValues() {
		l = append(l, valued(v))
	}
	for _, f := range wrongFails() {
		l = append(l, api.Outcome{Kind: api.OFail, Fail: f}, api.Outcome{Kind: api.OPanic, Fail: f})
	}
	return l
}

func TestGiveOfWrongOutcomes(t *testing.T) {
	for _, o := range wrongOutcomes() {
		m := newOf(t, codeFor("try [1, a] else b"))
		if e := m.Give(o); e != api.ErrState {
			t.Errorf("Give of %s ahead of any Step: %v", brief(o), e)
		}
		m.Step()
		before := stands(m)
		if e := m.Give(o); e != api.ErrShape {
			t.Errorf("Give of %s: %v", brief(o), e)
		}
		// It wants the same still, and takes what is right.
		if after := stands(m); after != before {
			t.Errorf("Give of %s: from %s to %s", brief(o), before, after)
		}
		if e := m.Step(); eventText(e) != "cell a" {
			t.Errorf("Give of %s: then %v", brief(o), e)
		}
		if told := act(m, "give 2") + " " + stands(m); told != "0 @2 #3 [1]" {
			t.Errorf("Give of %s: then 2: %s", brief(o), told)
		}
		if e := m.Give(o); e != api.ErrState {
			t.Errorf("Give of %s, when one was given: %v", brief(o), e)
		}
		if e := m.Step(); eventText(e) != "ended [1, 2]" {
			t.Errorf("Give of %s: in the end %v", brief(o), e)
		}
		if e := m.Give(o); e != api.ErrState {
			t.Errorf("Give of %s, when it has ended: %v", brief(o), e)
		}
	}
}

// rightOutcomes is those at the edges of what is right.
func rightOutcomes() []api.Outcome {
	failed := func(f api.Fail) api.Outcome { return api.Outcome{Kind: api.OFail, Fail: f} }
	return []api.Outcome{
		valued(broad(api.MaxAtoms)), valued(deep(api.MaxNest)), valued(api.Value{textAtom(longText)}), outcome("9007199254740992"), outcome("-9007199254740992"), outcome(`""`), outcome("[]"),
		{Kind: api.OValue, Value: api.Value{{Kind: api.VInt}}, Fail: api.Fail{}}, {Kind: api.OFail, Value: api.Value{}, Fail: api.Fail{{Kind: api.FDepth}}},
		failed(wide(api.MaxCracks)), failed(api.Fail{{Kind: api.FRaise, Text: longText}}), failed(api.Fail{{Kind: api.FPanic}}), outcome("none " + longName), outcome("long"), outcome(`cell a: token "": closed`),
		outcome(`panic ""`), outcome(`panic "` + longText + `"`),
	}
}

func TestGiveOfOutcomesAtTheEdge(t *testing.T) {
	for _, o := range rightOutcomes() {
		m := newOf(t, codeFor("a"))
		m.Step()
		if e := m.Give(o); e != api.OK {
			t.Errorf("Give of %s: %v", brief(o), e)
		}
		if e := m.Step(); !sameEvent(e, api.Event{Kind: api.EEnded, Outcome: o}) {
			t.Errorf("Give of %s: %s", brief(o), brief(e))
		}
	}
}

// 10.4

func TestDoneAtStack(t *testing.T) {
	wantPlayed(t, []played{
		// The instruction that wants something is not counted until it is given that; the value lies on the stack only at the next Step.
		{"[7, a, wait g . b]", []string{
			"step", "cell a @1 #1 [7]", "step", "cell a @1 #1 [7]", "give 8", "0 @1 #2 [7]", "step", "gate g @2 #2 [7 8]", "step", "gate g @2 #2 [7 8]", "pass", "0 @2 #3 [7 8]",
			"step", "cell b @3 #3 [7 8]", "give 9", "0 @3 #4 [7 8]", "step", "ended [7, 8, 9] @6 #7 []"}},
		{"[7, a]", []string{"step", "cell a @1 #1 [7]", "give depth", "0 @1 #2 [7]", "step", "ended depth @1 #2 []"}},
		{"[7, a]", []string{"step", "cell a @1 #1 [7]", `give panic "p"`, "0 @1 #2 [7]", "step", `ended panic "p" @1 #2 []`}},
		{"[7, try [8, a] else b]", []string{"step", "cell a @3 #3 [7 8]", "give depth", "0 @3 #4 [7 8]", "step", "cell b @7 #4 [7]", "give 1", "0 @7 #5 [7]", "step", "ended [7, 1] @9 #7 []"}},
		// What is not done is not counted: one part of an XIf is.
		{"if a then b else 2", []string{"step", "cell a @0 #0 []", "give 0", "0 @0 #1 []", "step", "ended 2 @5 #4 []"}},
		{"if a then b else 2", []string{"step", "cell a @0 #0 []", "give 1", "0 @0 #1 []", "step", "cell b @2 #2 []", "give 3", "0 @2 #3 []", "step", "ended 3 @5 #5 []"}},
		{"if a then b else 2", []string{"step", "cell a @0 #0 []", "give []", "0 @0 #1 []", "step", "ended value if @1 #2 []"}},
	})
}

// 10.1: Clone

// journeys is machines of many places to stand at: an expression, and what is done till it has ended.
var journeys = []played{
	{"[1, a]", []string{"step", "give 2", "step"}},
	{"[1, a]", []string{"step", "give depth", "step"}},
	{"[1, a]", []string{"step", `give panic "p"`, "step"}},
	{"let $x = 5 in [1, wait g . [$x, a]]", []string{"step", "pass", "step", "give 2", "step"}},
	{"let $x = a in try [$x, let $y = b in try [$y, c] else [$x, $y, d]] else [$x, f]", []string{"step", "give 1", "step", "give 2", "step", "give depth", "step", "give closed", "step", "give 3", "step"}},
	{"let $x = a in try [$x, let $y = b in try [$y, c] else [$x, $y, d]] else [$x, f]", []string{"step", "give 1", "step", "give 2", "step", "give depth", "step", `give panic "p"`, "step"}},
	{"[a, [a, [a, a & a]]]", []string{"step", "give 1", "step", "give 2", "step", "give 3", "step", "give [4]", "step", "give [5, 6]", "step"}},
}

// others is what may be done with a clone that the other machine is not to see.
var others = []string{"step", "pass", "give 77", "give [77, [77]]", `give fail "other"`, `give panic "other"`}

// follow does all acts, and tells what came of each, and where m stood.
func follow(m *machine.Machine, acts []string) string {
	told := []string{stands(m)}
	for _, a := range acts {
		told = append(told, act(m, a), stands(m))
	}
	return strings.Join(told, "; ")
}

func TestCloneAtEachPlace(t *testing.T) {
	for _, r := range journeys {
		for place := range len(r.acts) + 1 {
			want := follow(placed(t, r, place), r.acts[place:])
			m := placed(t, r, place)
			first, second := m.Clone(), m.Clone()
			for _, got := range []string{follow(first, r.acts[place:]), follow(second.Clone(), r.acts[place:]), follow(m, r.acts[place:]), follow(second, r.acts[place:])} {
				if got != want {
					t.Errorf("%s, a clone behind %d acts: %s; want %s", r.code, place, got, want)
				}
			}
		}
	}
}

// placed is a machine with which that many of the acts have been done.
func placed(t *testing.T, r played, place int) *machine.Machine {
	t.Helper()
	m := newOf(t, codeFor(r.code))
	for _, a := range r.acts[:place] {
		act(m, a)
	}
	return m
}

// TestClonesGoTheirWays: whatever is done with the one, the other one does not see it.
func TestClonesGoTheirWays(t *testing.T) {
	for _, r := range journeys {
		for place := range len(r.acts) + 1 {
			want := follow(placed(t, r, place), r.acts[place:])
			for _, first := range others {
				for _, second := range others {
					away := []string{first, second, "step", "give 77", "step", "pass", "step", "give 77", "step"}
					other := follow(placed(t, r, place), away)
					m := placed(t, r, place)
					c := m.Clone()
					if got := follow(c, away); got != other {
						t.Fatalf("%s, a clone behind %d acts, and then %s, %s: %s; want %s", r.code, place, first, second, got, other)
					}
					if got := follow(m, r.acts[place:]); got != want {
						t.Fatalf("%s: a clone behind %d acts, with %s, %s, is seen: %s; want %s", r.code, place, first, second, got, want)
					}
					m = placed(t, r, place)
					c = m.Clone()
					follow(m, away)
					if got := follow(c, r.acts[place:]); got != want {
						t.Fatalf("%s: a clone behind %d acts sees %s, %s: %s; want %s", r.code, place, first, second, got, want)
					}
				}
			}
		}
	}
}
