package machine_test

import (
	"fmt"
	"slices"
	"strings"
	"testing"

	"onceweb/api"
	"onceweb/code"
	"onceweb/eval"
	"onceweb/machine"
)

// knownAs is what is known, by lines of a name, a blank, and an outcome.
func knownAs(lines ...string) []api.Known {
	var l []api.Known
	for _, line := range lines {
		name, out, _ := strings.Cut(line, " ")
		l = append(l, api.Known{Name: name, Outcome: outcome(out)})
	}
	return l
}

func sameMeaning(a, b api.Meaning) bool {
	return sameOutcome(a.Outcome, b.Outcome) && a.Gate == b.Gate && slices.Equal(a.Asked, b.Asked)
}

// world is what is known in most of these tests. Nothing is known of lost.
var world = append(knownAs("nought 0", "two 2", `word "abc"`, "none []", `row [7, "a", []]`, `no fail "no"`, `oh panic "oh"`, `far cell db: join(fail "a"; token "stop": cycle a; panic "p"; depth)`, "gone none other"),
	api.Known{Name: "full", Outcome: valued(broad(api.MaxAtoms))},
	api.Known{Name: "bottom", Outcome: valued(deep(api.MaxNest))},
	api.Known{Name: "long", Outcome: valued(api.Value{textAtom(longText)})},
	api.Known{Name: "odd", Outcome: api.Outcome{Kind: api.OFail, Fail: api.Fail{{Kind: api.FPanic, Text: "odd"}}}},
)

// The gates door and hatch are open, every other one is shut.
var open = []string{"door", "hatch", "door"}

// 10.5: what Run refuses

func wantRunError(t *testing.T, c api.Code, known []api.Known, open []string, want api.Errno) {
	t.Helper()
	if m, e := machine.Run(c, known, open); e != want || !sameMeaning(m, api.Meaning{}) {
		t.Errorf("Run of %s, known %s, open %s: %s, %v; want %v", brief(c), brief(known), brief(open), brief(m), e, want)
	}
}

func TestRunOfUnsoundCodes(t *testing.T) {
	for _, c := range unsound() {
		want := code.Check(c)
		wantRunError(t, c, nil, nil, want)
		wantRunError(t, c, world, open, want)
		// What else is wrong comes behind.
		wantRunError(t, c, knownAs("A 1"), []string{"A"}, want)
		wantRunError(t, c, make([]api.Known, api.MaxItems+1), make([]string, api.MaxItems+1), want)
	}
}

// manyKnown is so many names of which something is known.
func manyKnown(n int) []api.Known {
	l := make([]api.Known, n)
	for i := range l {
		l[i] = api.Known{Name: fmt.Sprint("n", i), Outcome: outcome("1")}
	}
	return l
}

func manyGates(n int) []string { return slices.Repeat([]string{"g"}, n) }

// wrongKnown is lists of what is known of which eval.Eval says that they are wrong, by how.
func wrongKnown() map[api.Errno][][]api.Known {
	l := map[api.Errno][][]api.Known{
		api.ErrLong:  {manyKnown(api.MaxItems + 1), make([]api.Known, api.MaxItems+1), append(knownAs("A 1"), manyKnown(api.MaxItems)...)},
		api.ErrTwice: {knownAs("a 1", "a 1"), knownAs("a 1", "b 2", `a fail "x"`), append(knownAs("a 1"), api.Known{Name: "a"}), append(knownAs("a 1", "a 1"), api.Known{Name: "A"})},
		// Ahead of others, which come behind.
		api.ErrForm:  {append(knownAs("a 1", "A 1"), knownAs("a 1")...), {{Name: "A"}}, {{Name: "A"}, {Name: "a"}}},
		api.ErrShape: {{{Name: "a"}, {Name: "A"}}, append(knownAs("b 1"), api.Known{Name: "a"}, api.Known{Name: "b"})},
	}
	for _, name := range noNames {
		l[api.ErrForm] = append(l[api.ErrForm], []api.Known{{Name: name, Outcome: outcome("1")}}, append(knownAs("a 1", "b 2"), api.Known{Name: name}))
	}
	for _, o := range wrongOutcomes() {
		l[api.ErrShape] = append(l[api.ErrShape], []api.Known{{Name: "a", Outcome: o}}, append(knownAs("b 1"), api.Known{Name: "a", Outcome: o}))
	}
	return l
}

func wrongOpen() map[api.Errno][][]string {
	l := map[api.Errno][][]string{api.ErrLong: {manyGates(api.MaxItems + 1), make([]string, api.MaxItems+1)}}
	for _, name := range noNames {
		l[api.ErrForm] = append(l[api.ErrForm], []string{name}, []string{"g", "h", name}, []string{"g", name, "h"})
	}
	return l
}

func TestRunOfWrongWorlds(t *testing.T) {
	// Whether the code wants anything or not, and whatever that is.
	codes := []api.Code{codeOf("int 1; halt"), codeFor("a"), codeFor("wait g . a"), codeFor("panic(b)"), longCode(code.MaxCode)}
	for want, lists := range wrongKnown() {
		for _, known := range lists {
			for _, c := range codes {
				wantRunError(t, c, known, nil, want)
				wantRunError(t, c, known, []string{"A"}, want)
				wantRunError(t, c, known, manyGates(api.MaxItems+1), want)
			}
			if _, e := eval.Eval(read("1"), known, []string{"A"}); e != want {
				t.Errorf("Eval, known %s: %v", brief(known), e)
			}
		}
	}
	for want, lists := range wrongOpen() {
		for _, open := range lists {
			for _, c := range codes {
				wantRunError(t, c, nil, open, want)
				wantRunError(t, c, world, open, want)
			}
			if _, e := eval.Eval(read("1"), nil, open); e != want {
				t.Errorf("Eval, open %s: %v", brief(open), e)
			}
		}
	}
}

func TestRunOfWorldsAtTheEdge(t *testing.T) {
	m, e := machine.Run(codeFor("wait g . n0 + n4095"), manyKnown(api.MaxItems), manyGates(api.MaxItems))
	if want := (api.Meaning{Outcome: outcome("2"), Asked: []string{"n0", "n4095"}}); e != api.OK || !sameMeaning(m, want) {
		t.Errorf("as many as may be: %v, %v", m, e)
	}
	for _, o := range rightOutcomes() {
		m, e := machine.Run(codeFor(longName), []api.Known{{Name: longName, Outcome: o}}, []string{longName})
		if want := (api.Meaning{Outcome: o, Asked: []string{longName}}); e != api.OK || !sameMeaning(m, want) {
			t.Errorf("known %s: %s, %v", brief(o), brief(m), e)
		}
	}
}

// 10.5: what comes of it

// row is an expression, or a code, what it comes to in the world (an outcome, or stands and the gate), and the names that it asks for.
type row struct{ x, want, asked string }

func TestRun(t *testing.T) {
	for _, r := range []row{
		{"1", "1", ""}, {"two", "2", "two"}, {"row", `[7, "a", []]`, "row"}, {"no", `fail "no"`, "no"}, {"oh", `panic "oh"`, "oh"}, {"far", `cell db: join(fail "a"; token "stop": cycle a; panic "p"; depth)`, "far"}, {"gone", "none other", "gone"},
		// A name of which nothing is known.
		{"lost", "none lost", "lost"}, {longName, "none " + longName, longName}, {"try lost else 7", "7", "lost"}, {"try lost else other", "none other", "lost other"}, {"lost + two", "none lost", "lost"}, {"door", "none door", "door"},
		// A name that is asked for twice, and as often as it is asked for.
		{"two + two", "4", "two two"}, {"[two, two, no, two]", `fail "no"`, "two two no"}, {"[row, [row]]", `[[7, "a", []], [[7, "a", []]]]`, "row row"}, {"try [two, lost] else [lost]", "none lost", "two lost lost"}, {"let $x = two in $x + $x", "4", "two"}, {"try no else try no else two", "2", "no no two"},
		// What is not come to is not asked for.
		{"if nought then two else row", `[7, "a", []]`, "nought row"}, {"if two then no else oh", `fail "no"`, "two no"}, {"if word then no else oh", "value if", "word"}, {"try two else no", "2", "two"}, {"try oh else two", `panic "oh"`, "oh"}, {"no + two", `fail "no"`, "no"}, {"force two; jump 3; force row; halt", "2", "two"},
		// Open gates, and shut ones.
		{"wait door . two", "2", "two"}, {"wait hatch . wait door . two", "2", "two"}, {"wait wall . two", "stands wall", ""}, {"two + (wait wall . two)", "stands wall", "two"}, {"wait door . wait wall . two", "stands wall", ""}, {"wait two . 1", "stands two", ""}, {"[two, row, wait wall . no]", "stands wall", "two row"},
		// Standing is no failure, and no panic; what fails ahead of a gate does not stand.
		{"try wait wall . 1 else 2", "stands wall", ""}, {"try no + (wait wall . 1) else two", "2", "no two"}, {"[oh, wait wall . 1]", `panic "oh"`, "oh"}, {"try no else wait wall . two", "stands wall", "no"}, {"if nought then wait wall . 1 else 2", "2", "nought"}, {"let $x = wait wall . two in $x", "stands wall", ""},
		// What does not fit.
		{"two + word", "value add", "two word"}, {"[full]", "value list", "full"}, {"[bottom]", "value list", "bottom"}, {"full & [1]", "value join", "full"}, {"long & long", "value join", "long long"}, {"item(row, 3)", "value item", "row"}, {"size(two)", "value size", "two"}, {"fail(row)", "value fail", "row"}, {"panic(two)", "value panic", "two"},
		{"fail(word)", `fail "abc"`, "word"}, {"panic(word)", `panic "abc"`, "word"}, {"try odd else 1", "1", "odd"},
	} {
		want := api.Meaning{Asked: strings.Fields(r.asked)}
		if gate, ok := strings.CutPrefix(r.want, "stands "); ok {
			want.Gate = gate
		} else {
			want.Outcome = outcome(r.want)
		}
		if m, e := machine.Run(codeFor(r.x), world, open); e != api.OK || !sameMeaning(m, want) {
			t.Errorf("Run of %s: %s, %v; want %s", brief(r.x), brief(m), e, brief(want))
		}
	}
	odd := world[len(world)-1].Outcome
	if m, e := machine.Run(codeFor("odd"), world, open); e != api.OK || !sameMeaning(m, api.Meaning{Outcome: odd, Asked: []string{"odd"}}) {
		t.Errorf("a failure that is a panic: %v, %v", m, e)
	}
}

func TestRunWithoutAWorld(t *testing.T) {
	for _, known := range [][]api.Known{nil, {}} {
		for _, open := range [][]string{nil, {}} {
			m, e := machine.Run(codeFor("try a else wait g . 1"), known, open)
			if e != api.OK || !sameMeaning(m, api.Meaning{Gate: "g", Asked: []string{"a"}}) {
				t.Errorf("%v, %v", m, e)
			}
		}
	}
}
