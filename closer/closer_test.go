package closer_test

import (
	"fmt"
	"math"
	"slices"
	"strconv"
	"strings"
	"testing"

	"onceweb/api"
	"onceweb/closer"
	"onceweb/fail"
)

const lastEnded = 1 << 40

// partsOf reads parts as these tests write them: a:2 b c !no; b:1; c/1 (a has ended second, uses b and c, and its closer fails with no; c is of the scope 1, and not ready). A closer with ?oh panics, one with + is fine.
func partsOf(s string) []api.Part {
	var l []api.Part
	places := map[string]int{}
	lines := strings.FieldsFunc(s, func(r rune) bool { return r == ';' })
	for place, line := range lines {
		head, ended, ready := strings.Cut(strings.Fields(line)[0], ":")
		name, scope, _ := strings.Cut(head, "/")
		p := api.Part{Name: name, Ready: ready}
		p.Ended, _ = strconv.Atoi(ended)
		p.Scope, _ = strconv.Atoi(scope)
		places[name] = place
		l = append(l, p)
	}
	for place, line := range lines {
		for _, word := range strings.Fields(line)[1:] {
			l[place] = with(l[place], word, places)
		}
	}
	return l
}

func with(p api.Part, word string, places map[string]int) api.Part {
	switch word[0] {
	case '!':
		p.Closer = api.Closer{Kind: api.CloseFail, Text: word[1:]}
	case '?':
		p.Closer = api.Closer{Kind: api.ClosePanic, Text: word[1:]}
	case '+':
		p.Closer = api.Closer{Kind: api.CloseFine}
	default:
		place, there := places[word]
		if !there {
			panic("no part: " + word)
		}
		p.Uses = append(p.Uses, place)
	}
	return p
}

func want(t *testing.T, got, wanted string, what ...any) {
	t.Helper()
	if got != wanted {
		t.Errorf("%s: %s, want %s", strings.TrimSpace(fmt.Sprintln(what...)), got, wanted)
	}
}

func checkText(e api.Errno) string {
	if e == api.OK {
		return "ok"
	}
	return e.Error()
}

// listText is the numbers that were answered, or the error; anything beside one is odd.
func listText(l []int, e api.Errno) string {
	switch {
	case e == api.OK:
		return strings.Trim(fmt.Sprint(l), "[]")
	case len(l) == 0:
		return e.Error()
	}
	return fmt.Sprint("odd: ", l, e)
}

func failText(f api.Fail, e api.Errno) string {
	if e != api.OK && len(f) > 0 {
		return fmt.Sprint("odd: ", f, e)
	}
	if e != api.OK {
		return e.Error()
	}
	if len(f) == 0 {
		return "nothing"
	}
	s, e := fail.Print(f)
	if e != api.OK {
		return fmt.Sprint("odd: ", f, e)
	}
	return s
}

// namesText is the names of the parts at the places that were answered, or the error.
func namesText(l []api.Part, order []int, e api.Errno) string {
	if e != api.OK {
		return listText(order, e)
	}
	var names []string
	for _, place := range order {
		names = append(names, l[place].Name)
	}
	return strings.Join(names, " ")
}

func orderText(parents []int, l []api.Part, scope int) string {
	order, e := closer.Order(parents, l, scope)
	return namesText(l, order, e)
}

func closeText(parents []int, l []api.Part, scope int) string {
	order, f, e := closer.Close(parents, l, scope)
	if e == api.OK {
		return namesText(l, order, e) + ": " + failText(f, e)
	}
	if len(order) > 0 || len(f) > 0 {
		return fmt.Sprint("odd: ", order, f, e)
	}
	return e.Error()
}

func nth(place int) string { return "c" + strconv.Itoa(place) }

// manyParts are so many parts of the scope 0, all ready, the first one ended first.
func manyParts(many int) []api.Part {
	l := make([]api.Part, many)
	for place := range l {
		l[place] = api.Part{Name: nth(place), Ready: true, Ended: place + 1}
	}
	return l
}

func falling(from, to int) []int {
	var l []int
	for n := from; n >= to; n-- {
		l = append(l, n)
	}
	return l
}

// chain is the parents of so many scopes, one beneath another.
func chain(scopes int) []int {
	l := make([]int, scopes)
	for scope := range l {
		l[scope] = scope - 1
	}
	return l
}

func roots(scopes int) []int { return slices.Repeat([]int{-1}, scopes) }

var noNumbers = []int{-1, -2, math.MinInt, math.MaxInt}

// 19.1: Check.

func TestCheckOfRightOnes(t *testing.T) {
	longest := strings.Repeat("z", api.MaxName)
	word := strings.Repeat("\xff", api.MaxWord)
	for _, parents := range [][]int{{-1}, {-1, 0}, {-1, -1}, {-1, 0, -1, 2}, {-1, 0, 1, 2}, {-1, 0, 0, 0}, roots(api.MaxScopes), chain(api.MaxScopes)} {
		last := len(parents) - 1
		for _, l := range [][]api.Part{
			nil, {},
			partsOf("a"), partsOf("a:1"), partsOf("a:1 a"), partsOf("a b c; b:7 b; c c c a b"), partsOf("a:3; b:3; c:3"), partsOf("a +; b ?; c !; d:1 !no"),
			{{Name: "a", Scope: last}}, {{Name: "a"}, {Name: "a", Scope: last}}, {{Name: "a"}, {Name: "a"}},
			{{Name: "a", Ready: true, Ended: lastEnded}}, {{Name: longest}}, {{Name: "x_1"}},
			{{Name: "a", Closer: api.Closer{Kind: api.CloseFail, Text: word}}}, {{Name: "a", Closer: api.Closer{Kind: api.ClosePanic, Text: word}}},
			{{Name: "a", Uses: slices.Repeat([]int{0}, 3*api.MaxItems)}},
			manyParts(api.MaxCells),
		} {
			want(t, checkText(closer.Check(parents, l)), "ok", "Check", parents, len(l))
		}
	}
	want(t, checkText(closer.Check(nil, nil)), "ok", "Check of nothing")
	want(t, checkText(closer.Check([]int{}, []api.Part{})), "ok", "Check of nothing")
}

// wrongParents are parents that may not be, each with its error.
func wrongParents() map[api.Errno][][]int {
	shapes := [][]int{{-2}, {0}, {1}, {math.MinInt}, {math.MaxInt}, {1, -1}, {0, 0, 0}, {-1, -2}, {-1, 1}, {-1, 2}, {-1, 0, 2}, {-1, 0, 3}, {-1, 0, -2}, {-1, 1, 0}, {-1, 2, 1}}
	for _, wrong := range append([]int{api.MaxScopes, api.MaxScopes - 1}, noNumbers[1:]...) {
		first, last := chain(api.MaxScopes), chain(api.MaxScopes)
		first[0], last[api.MaxScopes-1] = wrong, wrong
		shapes = append(shapes, first, last)
	}
	return map[api.Errno][][]int{
		api.ErrShape: shapes,
		api.ErrLong:  {roots(api.MaxScopes + 1), chain(api.MaxScopes + 1), make([]int, api.MaxScopes+1), roots(api.MaxItems + 1)},
	}
}

func TestWrongParents(t *testing.T) {
	for e, all := range wrongParents() {
		for _, parents := range all {
			for _, l := range [][]api.Part{nil, partsOf("a:1"), {{}}, manyParts(api.MaxCells + 1)} {
				want(t, checkText(closer.Check(parents, l)), e.Error(), "Check", parents)
				for _, scope := range []int{0, -1, len(parents), math.MaxInt} {
					want(t, listText(closer.Beneath(parents, scope)), e.Error(), "Beneath", parents, scope)
					want(t, orderText(parents, l, scope), e.Error(), "Order", parents, scope)
					want(t, closeText(parents, l, scope), e.Error(), "Close", parents, scope)
				}
			}
		}
	}
}

// fault is something that makes a part not right, where there are so many scopes and parts.
type fault struct {
	what  string
	spoil func(p *api.Part, scopes, many int)
}

var longWord = strings.Repeat("w", api.MaxWord+1)

var noNames = []string{"", "A", "_a", "1", "a b", " a", "a ", "$a", "a-b", "é", "a\x00", "a\xff", "cell", "size", strings.Repeat("z", api.MaxName+1), longWord}

var noClosers = []api.Closer{
	{Kind: -1}, {Kind: 4}, {Kind: math.MinInt}, {Kind: math.MaxInt}, {Kind: -1, Text: "no"}, {Kind: 4, Text: "no"},
	{Kind: api.CloseNone, Text: "no"}, {Kind: api.CloseFine, Text: "no"}, {Kind: api.CloseNone, Text: longWord}, {Kind: api.CloseFine, Text: " "},
	{Kind: api.CloseFail, Text: longWord}, {Kind: api.ClosePanic, Text: longWord},
}

// closingFaults are those that closers hang on.
func closingFaults() []fault {
	var all []fault
	for _, name := range noNames {
		all = append(all, fault{fmt.Sprintf("the name %.30q", name), func(p *api.Part, _, _ int) { p.Name = name }})
	}
	for _, c := range noClosers {
		all = append(all, fault{fmt.Sprintf("the closer %d %.30q", c.Kind, c.Text), func(p *api.Part, _, _ int) { p.Closer = c }})
	}
	return all
}

// otherFaults are those that closers do not hang on.
func otherFaults() []fault {
	var all []fault
	add := func(what string, spoil func(p *api.Part, scopes, many int)) { all = append(all, fault{what, spoil}) }
	for _, n := range noNumbers {
		add(fmt.Sprint("the scope ", n), func(p *api.Part, _, _ int) { p.Scope = n })
		add(fmt.Sprint("use of ", n), func(p *api.Part, _, _ int) { p.Uses = []int{n} })
		add(fmt.Sprint("use of ", n, " behind others"), func(p *api.Part, _, _ int) { p.Uses = append(slices.Repeat([]int{0}, api.MaxItems), n) })
	}
	for more := range 2 {
		add(fmt.Sprint("a scope too many by ", more+1), func(p *api.Part, scopes, _ int) { p.Scope = scopes + more })
		add(fmt.Sprint("use of one too many by ", more+1), func(p *api.Part, _, many int) { p.Uses = []int{many + more} })
		add(fmt.Sprint("use of one too many by ", more+1, " ahead of others"), func(p *api.Part, _, many int) { p.Uses = []int{many + more, 0, 0} })
	}
	for _, ended := range []int{0, -1, lastEnded + 1, -lastEnded, math.MinInt, math.MaxInt} {
		add(fmt.Sprint("ready, ended ", ended), func(p *api.Part, _, _ int) { p.Ready, p.Ended = true, ended })
	}
	for _, ended := range []int{1, -1, 2, lastEnded, lastEnded + 1, math.MinInt, math.MaxInt} {
		add(fmt.Sprint("not ready, ended ", ended), func(p *api.Part, _, _ int) { p.Ready, p.Ended = false, ended })
	}
	return all
}

func allFaults() []fault { return append(closingFaults(), otherFaults()...) }

// wantPart holds what all calls that look a whole list over tell of one that is wrong.
func wantPart(t *testing.T, what string, parents []int, l []api.Part) {
	t.Helper()
	want(t, checkText(closer.Check(parents, l)), "error 190", "Check:", what)
	for _, scope := range []int{0, len(parents) - 1, -1, len(parents)} {
		want(t, orderText(parents, l, scope), "error 190", "Order:", what)
		want(t, closeText(parents, l, scope), "error 190", "Close:", what)
	}
}

// eachSpoilt hands out lists of right parts, and the places at which they are to be spoilt.
func eachSpoilt(tell func(l []api.Part, places ...int)) {
	for _, ready := range []string{"", ":5"} {
		tell(partsOf("a"+ready), 0)
		tell(partsOf("a"+ready+" b; b:1 !no; c c"), 0)
		tell(partsOf("a; b:1 b; c"+ready+" a"), 2)
		tell(partsOf("a"+ready+" b; b"+ready+" a; c"), 0, 1)
	}
	tell(manyParts(api.MaxCells), 0)
	tell(manyParts(api.MaxCells), api.MaxCells-1)
	tell(manyParts(api.MaxCells), 0, api.MaxCells-1)
}

func TestWrongParts(t *testing.T) {
	for _, parents := range [][]int{{-1}, {-1, 0, 0, 1}, chain(api.MaxScopes)} {
		for _, f := range allFaults() {
			eachSpoilt(func(l []api.Part, places ...int) {
				for _, place := range places {
					f.spoil(&l[place], len(parents), len(l))
				}
				wantPart(t, fmt.Sprintln(f.what, places, len(l)), parents, l)
			})
		}
	}
}

func TestTwoFaultsOfAPart(t *testing.T) {
	for _, f := range allFaults() {
		for _, g := range closingFaults() {
			l := partsOf("a; b:2")
			f.spoil(&l[1], 1, len(l))
			g.spoil(&l[1], 1, len(l))
			want(t, checkText(closer.Check([]int{-1}, l)), "error 190", f.what, "and", g.what)
		}
	}
}

func TestPartsWithoutScopes(t *testing.T) {
	for _, s := range []string{"a", "a:1", "a; b"} {
		wantPart(t, s, nil, partsOf(s))
	}
}

func TestTooManyParts(t *testing.T) {
	for _, l := range [][]api.Part{manyParts(api.MaxCells + 1), make([]api.Part, api.MaxCells+1), make([]api.Part, api.MaxItems+1)} {
		want(t, checkText(closer.Check([]int{-1}, l)), "error 3", "Check")
		want(t, orderText([]int{-1}, l, 0), "error 3", "Order")
		want(t, closeText([]int{-1}, l, 0), "error 3", "Close")
		want(t, checkText(closer.Check(nil, l)), "error 3", "Check without scopes")
	}
}

// asked is what the calls are asked with what is wrong among these, each a bit.
const (
	longParents = 1 << iota
	shapeless
	longList
	wrongPart
	noScope
	allWrong
)

func askedWith(wrong int) ([]int, []api.Part, int) {
	parents, l, scope := []int{-1, 0}, partsOf("a:1; b:2 a"), 1
	if wrong&longParents > 0 {
		parents = chain(api.MaxScopes + 1)
	}
	if wrong&shapeless > 0 {
		parents[1] = 1
	}
	if wrong&longList > 0 {
		l = manyParts(api.MaxCells + 1)
	}
	if wrong&wrongPart > 0 {
		l[1].Name = ""
	}
	if wrong&noScope > 0 {
		scope = len(parents)
	}
	return parents, l, scope
}

// firstOf is the text of what is told first of what is wrong.
func firstOf(wrong, looked int) string {
	errors := []api.Errno{api.ErrLong, api.ErrShape, api.ErrLong, api.ErrPart, api.ErrRange}
	for bit, e := range errors {
		if wrong&looked&(1<<bit) > 0 {
			return e.Error()
		}
	}
	return "ok"
}

func TestWhichErrorIsFirst(t *testing.T) {
	for wrong := 1; wrong < allWrong; wrong++ {
		parents, l, scope := askedWith(wrong)
		want(t, checkText(closer.Check(parents, l)), firstOf(wrong, longParents|shapeless|longList|wrongPart), "Check", wrong)
		if first := firstOf(wrong, longParents|shapeless|noScope); first != "ok" {
			want(t, listText(closer.Beneath(parents, scope)), first, "Beneath", wrong)
		}
		want(t, orderText(parents, l, scope), firstOf(wrong, allWrong-1), "Order", wrong)
		want(t, closeText(parents, l, scope), firstOf(wrong, allWrong-1), "Close", wrong)
	}
}

// 19.1: Beneath.

func TestBeneath(t *testing.T) {
	for _, c := range []struct {
		parents []int
		scope   int
		wanted  string
	}{
		{[]int{-1}, 0, "0"},
		{[]int{-1, 0}, 0, "1 0"}, {[]int{-1, 0}, 1, "1"},
		{[]int{-1, -1}, 0, "0"}, {[]int{-1, -1}, 1, "1"},
		{[]int{-1, 0, 0}, 0, "2 1 0"}, {[]int{-1, 0, 0}, 1, "1"},
		{[]int{-1, 0, 1}, 0, "2 1 0"}, {[]int{-1, 0, 1}, 1, "2 1"}, {[]int{-1, 0, 1}, 2, "2"},
		{[]int{-1, 0, 1, 0, 1}, 0, "4 3 2 1 0"}, {[]int{-1, 0, 1, 0, 1}, 1, "4 2 1"}, {[]int{-1, 0, 1, 0, 1}, 3, "3"},
		{[]int{-1, -1, 0, 1, 2, 3}, 0, "4 2 0"}, {[]int{-1, -1, 0, 1, 2, 3}, 1, "5 3 1"}, {[]int{-1, -1, 0, 1, 2, 3}, 3, "5 3"},
		{[]int{-1, 0, -1, 2, 0, 2}, 2, "5 3 2"}, {[]int{-1, 0, -1, 2, 0, 2}, 0, "4 1 0"},
	} {
		want(t, listText(closer.Beneath(c.parents, c.scope)), c.wanted, "Beneath", c.parents, c.scope)
	}
	for scope := range api.MaxScopes {
		want(t, listText(closer.Beneath(chain(api.MaxScopes), scope)), listText(falling(api.MaxScopes-1, scope), api.OK), "Beneath of a chain", scope)
		want(t, listText(closer.Beneath(roots(api.MaxScopes), scope)), strconv.Itoa(scope), "Beneath of one by itself", scope)
	}
	star := make([]int, api.MaxScopes)
	star[0] = -1
	want(t, listText(closer.Beneath(star, 0)), listText(falling(api.MaxScopes-1, 0), api.OK), "Beneath of one with many children")
}

func TestScopesThatAreNone(t *testing.T) {
	for _, parents := range [][]int{nil, {}, {-1}, {-1, 0}, {-1, -1, 1}, chain(api.MaxScopes)} {
		for _, scope := range append([]int{len(parents), len(parents) + 1, api.MaxScopes}, noNumbers...) {
			want(t, listText(closer.Beneath(parents, scope)), "error 1", "Beneath", parents, scope)
			want(t, orderText(parents, nil, scope), "error 1", "Order", parents, scope)
			want(t, closeText(parents, nil, scope), "error 1", "Close", parents, scope)
			if len(parents) > 0 {
				want(t, orderText(parents, partsOf("a:1 !no"), scope), "error 1", "Order", parents, scope)
				want(t, closeText(parents, partsOf("a:1 !no"), scope), "error 1", "Close", parents, scope)
			}
		}
	}
}

// 19.2

func TestFailsOfOne(t *testing.T) {
	for _, c := range []struct {
		closer api.Closer
		wanted api.Fail
	}{
		{api.Closer{}, nil},
		{api.Closer{Kind: api.CloseFine}, nil},
		{api.Closer{Kind: api.CloseFail}, api.Fail{{Kind: api.FRaise}}},
		{api.Closer{Kind: api.ClosePanic}, api.Fail{{Kind: api.FPanic}}},
		{api.Closer{Kind: api.CloseFail, Text: "no"}, api.Fail{{Kind: api.FRaise, Text: "no"}}},
		{api.Closer{Kind: api.ClosePanic, Text: "oh"}, api.Fail{{Kind: api.FPanic, Text: "oh"}}},
		{api.Closer{Kind: api.CloseFail, Text: "\xff\"\\\n\x00"}, api.Fail{{Kind: api.FRaise, Text: "\xff\"\\\n\x00"}}},
		{api.Closer{Kind: api.ClosePanic, Text: longWord[1:]}, api.Fail{{Kind: api.FPanic, Text: longWord[1:]}}},
		{api.Closer{Kind: api.CloseFail, Text: strings.Repeat("\xfe", api.MaxWord)}, api.Fail{{Kind: api.FRaise, Text: strings.Repeat("\xfe", api.MaxWord)}}},
	} {
		wanted := c.wanted
		if len(wanted) > 0 {
			wanted = append(wanted, api.Crack{Kind: api.FCell, N: 1, Text: "x_1"}, api.Crack{Kind: api.FJoin, N: 1})
		}
		l := []api.Part{{Name: "x_1", Ready: true, Ended: 1, Closer: c.closer}}
		if f, e := closer.Fails(l, []int{0}); e != api.OK || !slices.Equal(f, wanted) {
			t.Errorf("Fails of %d %.30q: %.100q, %v", c.closer.Kind, c.closer.Text, fmt.Sprint(f), e)
		}
		order, f, e := closer.Close([]int{-1}, l, 0)
		if e != api.OK || !slices.Equal(order, []int{0}) || !slices.Equal(f, wanted) {
			t.Errorf("Close of %d %.30q: %v, %.100q, %v", c.closer.Kind, c.closer.Text, order, fmt.Sprint(f), e)
		}
	}
}

func TestFails(t *testing.T) {
	l := partsOf("a:1 !no; b:2 ?oh; c:3 +; d; e !; f/9 g ?x; g:0 !y")
	for _, c := range []struct {
		order  []int
		wanted string
	}{
		{nil, "nothing"}, {[]int{}, "nothing"}, {[]int{2}, "nothing"}, {[]int{3}, "nothing"}, {[]int{2, 3, 2, 3}, "nothing"},
		{[]int{0}, `join(cell a: fail "no")`}, {[]int{1}, `join(cell b: panic "oh")`}, {[]int{2, 1, 3}, `join(cell b: panic "oh")`},
		{[]int{0, 1}, `join(cell a: fail "no"; cell b: panic "oh")`}, {[]int{1, 0}, `join(cell b: panic "oh"; cell a: fail "no")`},
		{[]int{0, 0}, `join(cell a: fail "no"; cell a: fail "no")`}, {[]int{1, 2, 0, 1}, `join(cell b: panic "oh"; cell a: fail "no"; cell b: panic "oh")`},
		// Neither what is ready, nor where a part is, nor what it uses counts here.
		{[]int{4, 5, 6}, `join(cell e: fail ""; cell f: panic "x"; cell g: fail "y")`},
		{[]int{6, 5, 4, 3, 2, 1, 0}, `join(cell g: fail "y"; cell f: panic "x"; cell e: fail ""; cell b: panic "oh"; cell a: fail "no")`},
	} {
		want(t, failText(closer.Fails(l, c.order)), c.wanted, "Fails", c.order)
	}
	want(t, failText(closer.Fails(nil, nil)), "nothing", "Fails of no part")
}

// TestFailsOfMany: as many as may be make no failure that is too long.
func TestFailsOfMany(t *testing.T) {
	l := manyParts(api.MaxCells)
	var wanted []string
	for place := range l {
		l[place].Closer = api.Closer{Kind: api.CloseFail, Text: longWord[1:]}
		wanted = append(wanted, "cell "+l[place].Name+`: fail "`+longWord[1:]+`"`)
	}
	slices.Reverse(wanted)
	text := "join(" + strings.Join(wanted, "; ") + ")"
	f, e := closer.Fails(l, falling(api.MaxCells-1, 0))
	if failText(f, e) != text {
		t.Errorf("Fails of many: %.200s", failText(f, e))
	}
	order, f, e := closer.Close([]int{-1}, l, 0)
	if failText(f, e) != text || !slices.Equal(order, falling(api.MaxCells-1, 0)) {
		t.Errorf("Close of many: %v, %.200s", order, failText(f, e))
	}
	f, e = closer.Fails(l[:1], make([]int, api.MaxCells))
	if e != api.OK || len(f) != 2*api.MaxCells+1 {
		t.Errorf("Fails of one part at all places: %d cracks, %v", len(f), e)
	}
}

// TestFailsOfOneFault: what is not in order does not count, nor what a closer does not hang on.
func TestFailsOfOneFault(t *testing.T) {
	for _, f := range closingFaults() {
		eachSpoilt(func(l []api.Part, places ...int) {
			whole := falling(len(l)-1, 0)
			sound := slices.DeleteFunc(slices.Clone(whole), func(place int) bool { return slices.Contains(places, place) })
			wanted := failText(closer.Fails(slices.Clone(l), sound))
			for _, place := range places {
				f.spoil(&l[place], 1, len(l))
			}
			want(t, failText(closer.Fails(l, whole)), "error 190", "Fails:", f.what, places)
			want(t, failText(closer.Fails(l, places)), "error 190", "Fails:", f.what, places)
			want(t, failText(closer.Fails(l, places[:1])), "error 190", "Fails:", f.what, places)
			want(t, failText(closer.Fails(l, sound)), wanted, "Fails of the others:", f.what, places)
			want(t, failText(closer.Fails(l, nil)), "nothing", "Fails of none:", f.what)
			want(t, failText(closer.Fails(l, append(slices.Clone(whole), len(l)))), map[bool]string{true: "error 3", false: "error 1"}[len(l) == api.MaxCells], "Fails of a place that is none behind:", f.what)
		})
	}
	for _, f := range otherFaults() {
		l := partsOf("a:1 !no; b:2 a ?oh")
		f.spoil(&l[0], 1, len(l))
		f.spoil(&l[1], 1, len(l))
		want(t, failText(closer.Fails(l, []int{1, 0})), `join(cell b: panic "oh"; cell a: fail "no")`, "Fails:", f.what)
	}
}

func TestFailsOfPlacesThatAreNone(t *testing.T) {
	for _, l := range [][]api.Part{nil, {}, partsOf("a:1"), partsOf("a !no; b"), {{}, {Name: "A"}}, manyParts(api.MaxCells)} {
		for _, place := range append([]int{len(l), len(l) + 1, api.MaxCells}, noNumbers...) {
			for _, right := range []int{0, 1, 2} {
				right = min(right, len(l))
				order := append(falling(right-1, 0), place)
				want(t, failText(closer.Fails(l, order)), "error 1", "Fails", len(l), order)
				slices.Reverse(order)
				want(t, failText(closer.Fails(l, order)), "error 1", "Fails", len(l), order)
			}
		}
	}
}

func TestWhichErrorOfFailsIsFirst(t *testing.T) {
	errors := []api.Errno{api.ErrLong, api.ErrLong, api.ErrRange, api.ErrPart}
	for wrong := 1; wrong < 16; wrong++ {
		l, order := partsOf("a:1; b:2 a !no"), []int{1, 0}
		if wrong&1 > 0 {
			l = manyParts(api.MaxCells + 1)
		}
		if wrong&2 > 0 {
			order = append(order, make([]int, api.MaxCells-1)...)
		}
		if wrong&4 > 0 {
			order[len(order)-1] = len(l)
		}
		if wrong&8 > 0 {
			l[1].Name = "1"
		}
		first := slices.IndexFunc([]int{1, 2, 4, 8}, func(bit int) bool { return wrong&bit > 0 })
		want(t, failText(closer.Fails(l, order)), errors[first].Error(), "Fails", wrong)
	}
	l := partsOf("a; b; c")
	l[0].Name, l[2].Closer.Kind = "A", 9
	for order, wanted := range map[string]string{"0 1": "error 190", "1 2": "error 190", "2 0": "error 190", "1": "nothing", "2 3": "error 1", "3 0": "error 1", "0 -1": "error 1"} {
		var places []int
		for _, word := range strings.Fields(order) {
			place, _ := strconv.Atoi(word)
			places = append(places, place)
		}
		want(t, failText(closer.Fails(l, places)), wanted, "Fails", order)
	}
}

func TestClose(t *testing.T) {
	for _, c := range []struct {
		parents []int
		parts   string
		scope   int
		wanted  string
	}{
		{[]int{-1}, "", 0, ": nothing"},
		{[]int{-1}, "a !no; b ?oh", 0, ": nothing"},
		{[]int{-1}, "a:2 b !no; b:1 ?oh", 0, `a b: join(cell a: fail "no"; cell b: panic "oh")`},
		{[]int{-1}, "a:2 b !no; b:1 ?oh; c:3", 0, `c a b: join(cell a: fail "no"; cell b: panic "oh")`},
		{[]int{-1}, "a:2 !no; b:1 +; c !x", 0, `a b: join(cell a: fail "no")`},
		{[]int{-1}, "a:2 +; b:3", 0, `b a: nothing`},
		{[]int{-1, 0, 0}, "a:9 !a; b/1:3 !b; c/2:1 ?c; d/2 ?d; e/1:4 +", 0, `c e b a: join(cell c: panic "c"; cell b: fail "b"; cell a: fail "a")`},
		{[]int{-1, 0, 0}, "a:9 !a; b/1:3 !b; c/2:1 ?c; d/2 ?d; e/1:4 +", 1, `e b: join(cell b: fail "b")`},
		{[]int{-1, 0, 0}, "a:9 !a; b/1:3 !b; c/2:1 ?c; d/2 ?d; e/1:4 +", 2, `c: join(cell c: panic "c")`},
		{[]int{-1, 0, -1}, "a:9 !a; b/1:3 !b", 2, `: nothing`},
	} {
		want(t, closeText(c.parents, partsOf(c.parts), c.scope), c.wanted, "Close", c.parents, c.parts, c.scope)
	}
}
