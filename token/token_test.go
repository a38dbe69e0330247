package token_test

import (
	"math"
	"slices"
	"strconv"
	"strings"
	"testing"

	"onceweb/api"
	"onceweb/fail"
	"onceweb/token"
)

func raise(text string) api.Crack { return api.Crack{Kind: api.FRaise, Text: text} }

// by is the failure of the token of that name, cancelled by itself.
func by(name string, cause ...api.Crack) api.Fail {
	n := min(len(cause), 1)
	return append(slices.Clone(cause), api.Crack{Kind: api.FToken, N: n, Text: name})
}

// late is the failure of a token whose deadline has come.
func late(name string) api.Fail { return by(name, raise("deadline")) }

// chain is a failure of so many cracks: a raised one, wrapped by cells.
func chain(size int) api.Fail {
	f := api.Fail{raise("x")}
	for len(f) < size {
		f = append(f, api.Crack{Kind: api.FCell, N: 1, Text: "a"})
	}
	return f
}

// names is as many names as are asked for, none twice.
func names(n int) []string {
	l := make([]string, n)
	for i := range l {
		l[i] = "t" + strconv.Itoa(i)
	}
	return l
}

// grow makes tokens: each line is a name, and those that it hangs on.
func grow(t *testing.T, x *token.Tree, lines ...string) {
	t.Helper()
	for _, line := range lines {
		words := strings.Fields(line)
		if done, e := x.Make(words[0], words[1:]); done || e != api.OK {
			t.Fatalf("Make of %s: %v, %v", line, done, e)
		}
	}
}

func tree(t *testing.T, lines ...string) *token.Tree {
	t.Helper()
	x := token.New()
	grow(t, x, lines...)
	return x
}

// full is a tree with as many tokens as may be, none on another.
func full(t *testing.T) *token.Tree {
	t.Helper()
	return tree(t, names(token.MaxTokens)...)
}

// wantMake asks of Make whether the token is cancelled at once; line as in grow.
func wantMake(t *testing.T, x *token.Tree, line string, want bool) {
	t.Helper()
	words := strings.Fields(line)
	if done, e := x.Make(words[0], words[1:]); done != want || e != api.OK {
		t.Errorf("Make of %s: %v, %v; want %v", line, done, e, want)
	}
}

func wantNotMade(t *testing.T, x *token.Tree, name string, parents []string, want api.Errno) {
	t.Helper()
	if done, e := x.Make(name, parents); done || e != want {
		t.Errorf("Make(%q, %d parents): %v, %v; want false, %v", name, len(parents), done, e, want)
	}
}

// told is the answer of a call that cancels: the names with a blank between two, or the error's number.
func told(l []string, e api.Errno) string {
	if e != api.OK {
		return strings.Join(append([]string{e.Error()}, l...), " ")
	}
	return strings.Join(l, " ")
}

func want(t *testing.T, what, got, want string) {
	t.Helper()
	if got != want {
		t.Errorf("%s: %q, want %q", what, got, want)
	}
}

func wantCancel(t *testing.T, x *token.Tree, name string, cause api.Fail, names string) {
	t.Helper()
	want(t, "Cancel of "+name, told(x.Cancel(name, cause)), names)
}

func wantUntil(t *testing.T, x *token.Tree, name string, at int, names string) {
	t.Helper()
	want(t, "Until("+name+", "+strconv.Itoa(at)+") at "+strconv.Itoa(x.Now()), told(x.Until(name, at)), names)
}

func wantAdvance(t *testing.T, x *token.Tree, ticks int, names string) {
	t.Helper()
	from := x.Now()
	want(t, "Advance("+strconv.Itoa(ticks)+") at "+strconv.Itoa(from), told(x.Advance(ticks)), names)
	if x.Now() != from+ticks {
		t.Errorf("Advance(%d) at %d: the time is %d", ticks, from, x.Now())
	}
}

func wantNoAdvance(t *testing.T, x *token.Tree, ticks int) {
	t.Helper()
	from := x.Now()
	if l, e := x.Advance(ticks); len(l) != 0 || e != api.ErrRange || x.Now() != from {
		t.Errorf("Advance(%d) at %d: %v, %v, the time %d", ticks, from, l, e, x.Now())
	}
}

// wantFail asks for a token's failure; nil: it is not cancelled.
func wantFail(t *testing.T, x *token.Tree, name string, want api.Fail) {
	t.Helper()
	code := api.OK
	if want == nil {
		code = api.ErrState
	}
	if f, e := x.Fail(name); e != code || !slices.Equal(f, want) {
		t.Errorf("Fail of %s: %s, %v; want %s, %v", name, brief(f), e, brief(want), code)
	}
	if done, e := x.Done(name); done != (want != nil) || e != api.OK {
		t.Errorf("Done of %s: %v, %v; want %v", name, done, e, want != nil)
	}
}

func brief(f api.Fail) string {
	s, e := fail.Print(f)
	if e != api.OK {
		return "no failure"
	}
	if len(s) > 80 {
		return s[:80] + ".."
	}
	return s
}

// wantLimit asks for a token's limit; below 0: it has none.
func wantLimit(t *testing.T, x *token.Tree, name string, want int) {
	t.Helper()
	at, ok, e := x.Limit(name)
	if at != max(want, 0) || ok != (want >= 0) || e != api.OK {
		t.Errorf("Limit of %s: %d, %v, %v; want %d", name, at, ok, e, want)
	}
}

// wantFirst asks which of some is first; "": none.
func wantFirst(t *testing.T, x *token.Tree, names string, want string) {
	t.Helper()
	name, ok, e := x.First(strings.Fields(names))
	if name != want || ok != (want != "") || e != api.OK {
		t.Errorf("First of %q: %q, %v, %v; want %q", names, name, ok, e, want)
	}
}

// stand is all that a tree tells without being changed, in words.
func stand(x *token.Tree) string {
	var b strings.Builder
	b.WriteString("at " + strconv.Itoa(x.Now()) + ", cancelled " + strings.Join(x.Order(), " "))
	for _, name := range x.Names() {
		at, ok, _ := x.Limit(name)
		done, _ := x.Done(name)
		f, e := x.Fail(name)
		b.WriteString("; " + name + " " + strconv.FormatBool(done) + " " + brief(f) + " " + e.Error())
		if ok {
			b.WriteString(" limit " + strconv.Itoa(at))
		}
	}
	return b.String()
}

// wantSame asks for a tree that stands where it did.
func wantSame(t *testing.T, what string, x *token.Tree, before string) {
	t.Helper()
	want(t, what, stand(x), before)
}

// wantStand asks for the time and the names of all and of the cancelled ones.
func wantStand(t *testing.T, x *token.Tree, now int, names, order string) {
	t.Helper()
	if x.Now() != now {
		t.Errorf("Now: %d, want %d", x.Now(), now)
	}
	want(t, "Names", strings.Join(x.Names(), " "), names)
	want(t, "Order", strings.Join(x.Order(), " "), order)
}

// The chapter's examples.

func TestFirstExample(t *testing.T) {
	x := tree(t, "a", "b a", "c b", "d", "e d b")
	wantCancel(t, x, "b", api.Fail{raise("x")}, "b c e")
	wantFail(t, x, "e", by("b", raise("x")))
	wantFail(t, x, "a", nil)
	wantMake(t, x, "f e", true)
	wantStand(t, x, 0, "a b c d e f", "b c e f")
	wantFail(t, x, "f", by("b", raise("x")))
}

func TestSecondExample(t *testing.T) {
	x := tree(t, "a", "d")
	wantUntil(t, x, "a", 10, "")
	wantUntil(t, x, "d", 7, "")
	wantAdvance(t, x, 20, "d a")
	wantFail(t, x, "a", late("a"))
	wantUntil(t, x, "d", 3, "")
	wantStand(t, x, 20, "a d", "d a")
}

func TestThirdExample(t *testing.T) {
	x := tree(t, "a", "b", "c", "d b c")
	wantCancel(t, x, "a", nil, "a")
	wantFail(t, x, "a", by("a"))
	wantUntil(t, x, "b", 5, "")
	wantUntil(t, x, "c", 3, "")
	wantLimit(t, x, "d", 3)
}

// 4.1

func TestNew(t *testing.T) {
	wantStand(t, token.New(), 0, "", "")
	wantFirst(t, token.New(), "", "")
	x, y := token.New(), token.New()
	grow(t, x, "a")
	x.Advance(3)
	wantStand(t, y, 0, "", "")
	grow(t, y, "a")
	wantStand(t, y, 0, "a", "")
}

func TestNow(t *testing.T) {
	x := tree(t, "a")
	sum := 0
	for _, ticks := range []int{0, 1, 0, 41, 1 << 20, api.MaxTick - 1<<20 - 42, 0} {
		wantAdvance(t, x, ticks, "")
		sum += ticks
		wantStand(t, x, sum, "a", "")
	}
	wantStand(t, x, api.MaxTick, "a", "")
}

func TestNamesAndOrder(t *testing.T) {
	x := tree(t, "z", "m z", "b", "a m b")
	wantStand(t, x, 0, "z m b a", "")
	wantCancel(t, x, "b", nil, "b a")
	wantStand(t, x, 0, "z m b a", "b a")
	wantCancel(t, x, "z", nil, "z m")
	wantStand(t, x, 0, "z m b a", "b a z m")
	wantMake(t, x, "c", false)
	wantStand(t, x, 0, "z m b a c", "b a z m")
	wantMake(t, x, "y c z", true)
	wantStand(t, x, 0, "z m b a c y", "b a z m y")
}

func TestClone(t *testing.T) {
	x := tree(t, "a", "b a", "c")
	wantAdvance(t, x, 4, "")
	wantUntil(t, x, "c", 9, "")
	wantCancel(t, x, "a", api.Fail{raise("x")}, "a b")
	y := x.Clone()
	wantSame(t, "a clone", y, stand(x))
	wantAdvance(t, y, 5, "c")
	wantMake(t, y, "d b", true)
	wantStand(t, y, 9, "a b c d", "a b c d")
	wantFail(t, y, "d", by("a", raise("x")))
	wantStand(t, x, 4, "a b c", "a b")
	wantMake(t, x, "d c", false)
	wantStand(t, x, 4, "a b c d", "a b")
}

func TestCloneAndTreeAreApart(t *testing.T) {
	make := func() *token.Tree {
		x := tree(t, "a", "b a", "c", "d b c", "e")
		wantUntil(t, x, "c", 8, "")
		wantUntil(t, x, "e", 3, "")
		wantAdvance(t, x, 3, "e")
		return x
	}
	before := stand(make())
	changes := []func(x *token.Tree){
		func(x *token.Tree) { x.Make("f", []string{"a"}) },
		func(x *token.Tree) { x.Make("f", []string{"e"}) },
		func(x *token.Tree) { x.Cancel("a", nil) },
		func(x *token.Tree) { x.Cancel("c", api.Fail{raise("x")}) },
		func(x *token.Tree) { x.Until("b", 6) },
		func(x *token.Tree) { x.Until("b", 2) },
		func(x *token.Tree) { x.Until("e", 1) },
		func(x *token.Tree) { x.Advance(1) },
		func(x *token.Tree) { x.Advance(5) },
	}
	for i, change := range changes {
		x := make()
		y := x.Clone()
		change(x)
		wantSame(t, "a clone", y, before)
		if stand(x) == before {
			t.Errorf("change %d changes nothing", i)
		}
		x = make()
		y = x.Clone()
		change(y)
		wantSame(t, "what a clone was made of", x, before)
		if stand(y) == before {
			t.Errorf("change %d changes nothing of a clone", i)
		}
	}
}

func TestCloneOfNewAndOfClone(t *testing.T) {
	x := token.New()
	y := x.Clone()
	grow(t, x, "a")
	wantStand(t, y, 0, "", "")
	grow(t, y, "b")
	z := y.Clone().Clone()
	y.Cancel("b", nil)
	wantStand(t, z, 0, "b", "")
	wantFail(t, z, "b", nil)
	wantStand(t, x, 0, "a", "")
}

// 4.2

func TestLimits(t *testing.T) {
	if token.MaxTokens != 256 || token.MaxParents != 8 {
		t.Errorf("%d tokens, %d parents", token.MaxTokens, token.MaxParents)
	}
}

func TestMakeOfNames(t *testing.T) {
	right := []string{"a", "z", "a0", "a9", "a_", "abcdefghijklmnopqrstuvwx", "z_______________________", "cell", "fail", "in"}
	x := tree(t, right...)
	wantStand(t, x, 0, strings.Join(right, " "), "")
	wrong := []string{
		"", "A", "0", "9a", "_", "_a", "aA", "a-b", "a b", " a", "a ", "a.", "$a", "a\n", "a\x00", "é", "aé", "a\xff", "`", "{", "a`", "a{", "a/", "a:", "a^",
		"abcdefghijklmnopqrstuvwxy", strings.Repeat("a", api.MaxWord+1), strings.Repeat("a", api.MaxText+1),
	}
	for _, name := range wrong {
		wantNotMade(t, x, name, nil, api.ErrForm)
		wantNotMade(t, x, name, []string{"nobody"}, api.ErrForm)
		wantNotMade(t, x, name, names(token.MaxParents+1), api.ErrForm)
	}
	wantStand(t, x, 0, strings.Join(right, " "), "")
}

func TestMakeTwice(t *testing.T) {
	x := tree(t, "a", "b a")
	wantCancel(t, x, "b", nil, "b")
	for _, name := range []string{"a", "b"} {
		wantNotMade(t, x, name, nil, api.ErrTwice)
		wantNotMade(t, x, name, []string{name}, api.ErrTwice)
		wantNotMade(t, x, name, []string{"nobody"}, api.ErrTwice)
		wantNotMade(t, x, name, names(token.MaxParents+1), api.ErrTwice)
	}
	wantStand(t, x, 0, "a b", "b")
}

func TestMakeOfParents(t *testing.T) {
	eight := names(token.MaxParents)
	x := tree(t, eight...)
	grow(t, x, "all "+strings.Join(eight, " "))
	before := stand(x)
	wantNotMade(t, x, "more", append(names(token.MaxParents), "all"), api.ErrLong)
	wantNotMade(t, x, "more", slices.Repeat([]string{"t0"}, token.MaxParents+1), api.ErrLong)
	wantNotMade(t, x, "more", names(token.MaxParents+1), api.ErrLong)
	wantNotMade(t, x, "more", make([]string, api.MaxItems+1), api.ErrLong)
	for _, parents := range [][]string{{"nobody"}, {"t0", "nobody"}, {"nobody", "t0"}, {""}, {"A"}, {"more"}, append(names(token.MaxParents-1), "nobody")} {
		wantNotMade(t, x, "more", parents, api.ErrNone)
	}
	wantSame(t, "refused calls", x, before)
	for _, name := range eight {
		y := x.Clone()
		wantCancel(t, y, name, nil, name+" all")
		wantFail(t, y, "all", by(name))
	}
}

func TestMakeWithOneParentTwice(t *testing.T) {
	x := tree(t, "a", "b a a", "c "+strings.Repeat("b ", token.MaxParents))
	wantCancel(t, x, "b", nil, "b c")
	wantMake(t, x, "d b b a", true)
	wantFail(t, x, "d", by("b"))
	wantCancel(t, x, "a", nil, "a")
	wantStand(t, x, 0, "a b c d", "b c d a")
}

func TestMostTokens(t *testing.T) {
	x := full(t)
	last := "t" + strconv.Itoa(token.MaxTokens-1)
	before := stand(x)
	wantNotMade(t, x, "more", nil, api.ErrLong)
	wantNotMade(t, x, "more", []string{"t0", last}, api.ErrLong)
	wantNotMade(t, x, "More", nil, api.ErrForm)
	wantNotMade(t, x, last, nil, api.ErrTwice)
	wantNotMade(t, x, "more", []string{"nobody"}, api.ErrNone)
	wantSame(t, "refused calls", x, before)
	wantCancel(t, x, last, nil, last)
	wantNotMade(t, x, "more", nil, api.ErrLong)
	wantCancel(t, x, "t0", nil, "t0")
	want(t, "Order", strings.Join(x.Order(), " "), last+" t0")
}

func TestMakeBeneathCancelledOnes(t *testing.T) {
	x := tree(t, "a", "b", "c", "d", "e c")
	wantMake(t, x, "f", false)
	wantCancel(t, x, "c", nil, "c e")
	wantCancel(t, x, "a", api.Fail{raise("x")}, "a")
	wantMake(t, x, "g b", false)
	wantMake(t, x, "h b a", true)
	wantMake(t, x, "i a c", true)
	wantMake(t, x, "j d a e", true)
	wantMake(t, x, "k h i", true)
	wantMake(t, x, "l i h", true)
	wantFail(t, x, "h", by("a", raise("x")))
	wantFail(t, x, "i", by("c"))
	wantFail(t, x, "j", by("c"))
	wantFail(t, x, "k", by("a", raise("x")))
	wantFail(t, x, "l", by("a", raise("x")))
	wantStand(t, x, 0, "a b c d e f g h i j k l", "c e a h i j k l")
}

// 4.3

func TestCancel(t *testing.T) {
	x := tree(t, "a", "b a", "c", "d b c", "e d", "f a")
	wantCancel(t, x, "d", nil, "d e")
	wantCancel(t, x, "a", api.Fail{raise("x")}, "a b f")
	wantCancel(t, x, "c", nil, "c")
	wantFail(t, x, "a", by("a", raise("x")))
	wantFail(t, x, "b", by("a", raise("x")))
	wantFail(t, x, "c", by("c"))
	wantFail(t, x, "d", by("d"))
	wantFail(t, x, "e", by("d"))
	wantFail(t, x, "f", by("a", raise("x")))
}

func TestCancelOfOneThatIsCancelled(t *testing.T) {
	x := tree(t, "a", "b a")
	wantCancel(t, x, "a", nil, "a b")
	before := stand(x)
	for _, name := range []string{"a", "b"} {
		wantCancel(t, x, name, nil, "")
		wantCancel(t, x, name, api.Fail{raise("x")}, "")
		wantCancel(t, x, name, api.Fail{{}}, api.ErrShape.Error())
	}
	wantSame(t, "cancelled twice", x, before)
	wantMake(t, x, "c b", true)
	wantFail(t, x, "c", by("a"))
}

func TestCancelOfMany(t *testing.T) {
	x := tree(t, "root")
	var beneath []string
	for i := range token.MaxTokens - 1 {
		name := "t" + strconv.Itoa(i)
		grow(t, x, name+" root")
		beneath = append(beneath, name)
	}
	y := x.Clone()
	wantCancel(t, y, "t200", nil, "t200")
	wantCancel(t, y, "root", nil, strings.Join(append([]string{"root"}, slices.Delete(slices.Clone(beneath), 200, 201)...), " "))
	wantCancel(t, x, "root", nil, strings.Join(append([]string{"root"}, beneath...), " "))
	wantFail(t, x, "t254", by("root"))
}

// everyKind is a failure with cracks of every kind.
func everyKind() api.Fail {
	return api.Fail{
		raise("x"), {Kind: api.FPanic, Text: "y"}, {Kind: api.FValue, Text: "add"}, {Kind: api.FNone, Text: "a"}, {Kind: api.FCycle, Text: "a"},
		{Kind: api.FDepth}, {Kind: api.FClosed}, {Kind: api.FToken, Text: "t"}, {Kind: api.FLong}, {Kind: api.FCell, N: 1, Text: "b"}, {Kind: api.FToken, N: 1}, {Kind: api.FJoin, N: 9},
	}
}

func TestCauses(t *testing.T) {
	causes := []api.Fail{{raise("x")}, {raise("")}, {raise(strings.Repeat("\xff", api.MaxWord))}, everyKind(), chain(2), chain(api.MaxCracks - 1), by("a", raise("x")), by("a")}
	for _, cause := range causes {
		x := tree(t, "a", "b a")
		wantCancel(t, x, "a", cause, "a b")
		wantFail(t, x, "a", by("a", cause...))
		wantFail(t, x, "b", by("a", cause...))
	}
	for _, cause := range []api.Fail{nil, {}, make(api.Fail, 0, 4)} {
		x := tree(t, "a")
		wantCancel(t, x, "a", cause, "a")
		wantFail(t, x, "a", by("a"))
	}
}

func TestTooLongFailure(t *testing.T) {
	x := tree(t, "a", "b a")
	wantCancel(t, x, "a", chain(api.MaxCracks), "a b")
	long := api.Fail{{Kind: api.FLong}}
	wantFail(t, x, "a", long)
	wantFail(t, x, "b", long)
	wantMake(t, x, "c b", true)
	wantFail(t, x, "c", long)
}

func TestCancelRefused(t *testing.T) {
	x := tree(t, "a", "b a")
	before := stand(x)
	for _, name := range []string{"", "c", "A", "a ", strings.Repeat("a", api.MaxText+1)} {
		wantCancel(t, x, name, nil, api.ErrNone.Error())
		wantCancel(t, x, name, api.Fail{{}}, api.ErrNone.Error())
	}
	causes := []api.Fail{
		{{}}, {raise("x"), raise("y")}, {raise(strings.Repeat("x", api.MaxWord+1))}, {{Kind: api.FCell, N: 1, Text: "a"}}, {{Kind: api.FToken, N: 1}}, {{Kind: api.FRaise, N: 1}},
		{{Kind: api.FNone, Text: "A"}}, {{Kind: api.FLong + 1}}, {{Kind: -1}}, {{Kind: api.FJoin, N: math.MaxInt}}, {{Kind: api.FJoin, N: math.MinInt}},
		chain(api.MaxCracks + 1), chain(api.MaxItems + 1), make(api.Fail, 3),
	}
	for i, cause := range causes {
		want(t, "Cancel with the wrong cause "+strconv.Itoa(i), told(x.Cancel("a", cause)), api.ErrShape.Error())
	}
	wantSame(t, "refused calls", x, before)
}

func TestUntil(t *testing.T) {
	x := tree(t, "a", "b a", "c")
	wantAdvance(t, x, 5, "")
	wantUntil(t, x, "a", 6, "")
	wantUntil(t, x, "b", api.MaxTick, "")
	wantUntil(t, x, "c", 5, "c")
	wantFail(t, x, "c", late("c"))
	wantUntil(t, x, "a", 0, "a b")
	wantFail(t, x, "a", late("a"))
	wantFail(t, x, "b", late("a"))
	wantStand(t, x, 5, "a b c", "c a b")
}

func TestUntilBesideNow(t *testing.T) {
	for _, at := range []int{0, 1, 8, 9} {
		x := tree(t, "a")
		wantAdvance(t, x, 9, "")
		wantUntil(t, x, "a", at, "a")
		wantFail(t, x, "a", late("a"))
		wantLimit(t, x, "a", at)
	}
	for _, at := range []int{10, 11, api.MaxTick - 1, api.MaxTick} {
		x := tree(t, "a")
		wantAdvance(t, x, 9, "")
		wantUntil(t, x, "a", at, "")
		wantAdvance(t, x, at-10, "")
		wantFail(t, x, "a", nil)
		wantAdvance(t, x, 1, "a")
		wantFail(t, x, "a", late("a"))
	}
}

func TestUntilAtNought(t *testing.T) {
	x := tree(t, "a", "b a")
	wantUntil(t, x, "b", 0, "b")
	wantUntil(t, x, "a", 0, "a")
	wantStand(t, x, 0, "a b", "b a")
	wantFail(t, x, "b", late("b"))
}

func TestSeveralDeadlines(t *testing.T) {
	x := tree(t, "a")
	for _, at := range []int{30, 10, 20, 10, api.MaxTick} {
		wantUntil(t, x, "a", at, "")
	}
	wantLimit(t, x, "a", 10)
	wantAdvance(t, x, 9, "")
	wantUntil(t, x, "a", 9, "a")
	wantLimit(t, x, "a", 9)
	wantAdvance(t, x, api.MaxTick-9, "")
}

func TestUntilOfOneThatIsCancelled(t *testing.T) {
	x := tree(t, "a", "b a")
	wantCancel(t, x, "a", api.Fail{raise("x")}, "a b")
	wantUntil(t, x, "b", 4, "")
	wantUntil(t, x, "a", 0, "")
	wantAdvance(t, x, 10, "")
	wantUntil(t, x, "b", 10, "")
	wantUntil(t, x, "a", 12, "")
	wantAdvance(t, x, 10, "")
	wantFail(t, x, "a", by("a", raise("x")))
	wantFail(t, x, "b", by("a", raise("x")))
	wantLimit(t, x, "a", 0)
	wantLimit(t, x, "b", 0)
}

func TestUntilRefused(t *testing.T) {
	x := tree(t, "a", "b a")
	wantCancel(t, x, "b", nil, "b")
	before := stand(x)
	for _, at := range []int{-1, math.MinInt, api.MaxTick + 1, math.MaxInt} {
		wantUntil(t, x, "a", at, api.ErrRange.Error())
		wantUntil(t, x, "b", at, api.ErrRange.Error())
		wantUntil(t, x, "c", at, api.ErrNone.Error())
	}
	for _, name := range []string{"", "c", "A"} {
		wantUntil(t, x, name, 0, api.ErrNone.Error())
	}
	wantSame(t, "refused calls", x, before)
	wantAdvance(t, x, api.MaxTick, "")
}

// 4.4

func TestAdvanceByDeadlines(t *testing.T) {
	x := tree(t, "a", "b", "c", "d", "e", "f")
	for i, at := range []int{7, 3, 7, 9, 3} {
		wantUntil(t, x, x.Names()[i], at, "")
	}
	y := x.Clone()
	wantAdvance(t, x, 9, "b e a c d")
	wantAdvance(t, x, api.MaxTick-9, "")
	wantFail(t, x, "f", nil)
	wantAdvance(t, y, 2, "")
	wantAdvance(t, y, 1, "b e")
	wantAdvance(t, y, 0, "")
	wantAdvance(t, y, 3, "")
	wantAdvance(t, y, 2, "a c")
	wantAdvance(t, y, 1, "d")
	for _, name := range []string{"a", "b", "c", "d", "e"} {
		wantFail(t, y, name, late(name))
	}
}

func TestAdvanceGoesByTheOrderOfMaking(t *testing.T) {
	x := tree(t, "a", "b", "c")
	wantUntil(t, x, "c", 5, "")
	wantUntil(t, x, "a", 5, "")
	wantUntil(t, x, "b", 8, "")
	wantUntil(t, x, "b", 5, "")
	wantAdvance(t, x, 6, "a b c")
}

func TestAdvanceTakesAlong(t *testing.T) {
	x := tree(t, "a", "b a", "c b", "d")
	wantUntil(t, x, "a", 5, "")
	wantUntil(t, x, "b", 5, "")
	wantUntil(t, x, "c", 4, "")
	wantUntil(t, x, "d", 5, "")
	wantAdvance(t, x, 5, "c a b d")
	wantFail(t, x, "a", late("a"))
	wantFail(t, x, "b", late("a"))
	wantFail(t, x, "c", late("c"))
	wantFail(t, x, "d", late("d"))
}

func TestAdvanceTakesLaterDeadlinesAlong(t *testing.T) {
	x := tree(t, "a", "b", "c a", "d b")
	wantUntil(t, x, "a", 2, "")
	wantUntil(t, x, "b", 1, "")
	wantUntil(t, x, "c", 3, "")
	wantUntil(t, x, "d", 2, "")
	wantAdvance(t, x, 10, "b d a c")
	wantFail(t, x, "d", late("b"))
	wantFail(t, x, "c", late("a"))
}

func TestAdvancePastCancelledOnes(t *testing.T) {
	x := tree(t, "a", "b a", "c")
	wantUntil(t, x, "a", 5, "")
	wantUntil(t, x, "b", 6, "")
	wantUntil(t, x, "c", 6, "")
	wantCancel(t, x, "a", nil, "a b")
	wantAdvance(t, x, 8, "c")
	wantFail(t, x, "a", by("a"))
	wantFail(t, x, "b", by("a"))
}

func TestAdvanceRange(t *testing.T) {
	x := tree(t, "a", "b")
	wantUntil(t, x, "a", api.MaxTick, "")
	for _, ticks := range []int{-1, math.MinInt, api.MaxTick + 1, math.MaxInt} {
		wantNoAdvance(t, x, ticks)
	}
	wantAdvance(t, x, 10, "")
	for _, ticks := range []int{-1, -10, math.MinInt, api.MaxTick - 9, api.MaxTick, math.MaxInt - 9, math.MaxInt} {
		wantNoAdvance(t, x, ticks)
	}
	wantAdvance(t, x, api.MaxTick-11, "")
	wantNoAdvance(t, x, 2)
	wantAdvance(t, x, 1, "a")
	wantNoAdvance(t, x, 1)
	wantAdvance(t, x, 0, "")
	wantMake(t, x, "c", false)
	wantUntil(t, x, "c", api.MaxTick-1, "c")
	wantAdvance(t, x, 0, "")
	wantStand(t, x, api.MaxTick, "a b c", "a c")
}

func TestAdvanceOfAllAtOnce(t *testing.T) {
	x := full(t)
	l := names(token.MaxTokens)
	for i, name := range l {
		wantUntil(t, x, name, 1000-i%16, "")
	}
	var order []string
	for rest := 15; rest >= 0; rest-- {
		for i := rest; i < token.MaxTokens; i += 16 {
			order = append(order, l[i])
		}
	}
	wantAdvance(t, x, api.MaxTick, strings.Join(order, " "))
	want(t, "Order", strings.Join(x.Order(), " "), strings.Join(order, " "))
}

// 4.5

func TestAskedOfNobody(t *testing.T) {
	x := tree(t, "a")
	wantCancel(t, x, "a", nil, "a")
	wantUntil(t, x, "a", 3, "")
	for _, name := range []string{"", "b", "A", "a ", "a\x00", strings.Repeat("a", api.MaxText+1)} {
		if done, e := x.Done(name); done || e != api.ErrNone {
			t.Errorf("Done of %q: %v, %v", name, done, e)
		}
		if f, e := x.Fail(name); len(f) != 0 || e != api.ErrNone {
			t.Errorf("Fail of %q: %v, %v", name, f, e)
		}
		if at, ok, e := x.Limit(name); at != 0 || ok || e != api.ErrNone {
			t.Errorf("Limit of %q: %d, %v, %v", name, at, ok, e)
		}
	}
}

func TestFailOfOneThatLives(t *testing.T) {
	x := tree(t, "a", "b a")
	wantUntil(t, x, "a", 3, "")
	wantCancel(t, x, "b", nil, "b")
	for range 2 {
		wantFail(t, x, "a", nil)
		wantFail(t, x, "b", by("b"))
	}
}

func TestLimit(t *testing.T) {
	x := tree(t, "a", "b a", "c b", "d", "e c d", "f")
	for _, name := range x.Names() {
		wantLimit(t, x, name, -1)
	}
	wantUntil(t, x, "c", 20, "")
	wantUntil(t, x, "a", 30, "")
	wantUntil(t, x, "e", 25, "")
	wantLimit(t, x, "a", 30)
	wantLimit(t, x, "b", 30)
	wantLimit(t, x, "c", 20)
	wantLimit(t, x, "d", -1)
	wantLimit(t, x, "e", 20)
	wantLimit(t, x, "f", -1)
	wantUntil(t, x, "d", 10, "")
	wantLimit(t, x, "d", 10)
	wantLimit(t, x, "e", 10)
	wantLimit(t, x, "c", 20)
	wantUntil(t, x, "a", 5, "")
	wantLimit(t, x, "e", 5)
	wantMake(t, x, "g f e", false)
	wantLimit(t, x, "g", 5)
}

func TestLimitAtTheEdges(t *testing.T) {
	x := tree(t, "a", "b a", "c", "d c")
	wantUntil(t, x, "a", api.MaxTick, "")
	wantLimit(t, x, "a", api.MaxTick)
	wantLimit(t, x, "b", api.MaxTick)
	wantUntil(t, x, "c", 0, "c d")
	wantLimit(t, x, "c", 0)
	wantLimit(t, x, "d", 0)
}

func TestLimitOfCancelledOnes(t *testing.T) {
	x := tree(t, "a", "b a", "c")
	wantUntil(t, x, "b", 9, "")
	wantCancel(t, x, "a", nil, "a b")
	wantLimit(t, x, "a", -1)
	wantLimit(t, x, "b", 9)
	wantUntil(t, x, "a", 4, "")
	wantLimit(t, x, "a", 4)
	wantLimit(t, x, "b", 4)
	wantAdvance(t, x, 20, "")
	wantLimit(t, x, "b", 4)
	wantMake(t, x, "d c b", true)
	wantLimit(t, x, "d", 4)
}

// 4.6

func TestFirst(t *testing.T) {
	x := tree(t, "a", "b", "c a", "d", "e")
	wantFirst(t, x, "a b c d e", "")
	wantCancel(t, x, "b", nil, "b")
	wantCancel(t, x, "a", nil, "a c")
	wantUntil(t, x, "e", 0, "e")
	wantFirst(t, x, "a b c d e", "b")
	wantFirst(t, x, "e d c b a", "b")
	wantFirst(t, x, "e c a", "a")
	wantFirst(t, x, "e c", "c")
	wantFirst(t, x, "c e c e", "c")
	wantFirst(t, x, "d e d", "e")
	wantFirst(t, x, "d", "")
	wantFirst(t, x, "d d", "")
	wantFirst(t, x, "", "")
}

func TestFirstOfMany(t *testing.T) {
	x := tree(t, "a", "b")
	wantCancel(t, x, "a", nil, "a")
	most := slices.Repeat([]string{"b"}, api.MaxItems)
	wantFirst(t, x, strings.Join(most, " "), "")
	most[api.MaxItems-1] = "a"
	wantFirst(t, x, strings.Join(most, " "), "a")
	for _, more := range []string{"a", "b", "nobody"} {
		if name, ok, e := x.First(append(slices.Clone(most), more)); name != "" || ok || e != api.ErrLong {
			t.Errorf("one more: %q, %v, %v", name, ok, e)
		}
	}
	for _, names := range [][]string{{"nobody"}, {"a", "nobody"}, {"nobody", "a"}, {"b", ""}, {"A"}, append(most[:api.MaxItems-1:api.MaxItems-1], "nobody")} {
		if name, ok, e := x.First(names); name != "" || ok || e != api.ErrNone {
			t.Errorf("one that is no token: %q, %v, %v", name, ok, e)
		}
	}
}

// R3

// spoil overwrites a list with its spare room.
func spoil[T any](l []T, with T) {
	l = l[:cap(l)]
	for i := range l {
		l[i] = with
	}
}

func TestAnswersAreNewMemory(t *testing.T) {
	x := tree(t, "a", "b a", "c", "d", "e d")
	wantUntil(t, x, "d", 3, "")
	before := stand(x)
	spoil(x.Names(), "z")
	spoil(x.Order(), "z")
	wantSame(t, "names", x, before)
	l, _ := x.Cancel("a", api.Fail{raise("x")})
	m, _ := x.Until("c", 0)
	n, _ := x.Advance(5)
	y := x.Clone()
	before = stand(x)
	spoil(l, "z")
	spoil(n, "z")
	want(t, "one answer beside two others", strings.Join(m, " "), "c")
	spoil(m, "z")
	spoil(x.Names(), "z")
	spoil(x.Order(), "z")
	f, _ := x.Fail("a")
	g, _ := x.Fail("b")
	h, _ := x.Fail("a")
	spoil(f, raise("z"))
	if !slices.Equal(g, by("a", raise("x"))) || !slices.Equal(h, g) {
		t.Errorf("two failures share memory: %v, %v", g, h)
	}
	spoil(g, raise("z"))
	wantSame(t, "answers that were written over", x, before)
	wantSame(t, "and a clone", y, before)
	f, _ = y.Fail("b")
	spoil(f, raise("z"))
	spoil(y.Order(), "z")
	wantSame(t, "a clone's answers that were written over", x, before)
	wantSame(t, "a clone's own", y, before)
}

func TestArgumentsAreNeitherChangedNorKept(t *testing.T) {
	x := tree(t, "a", "b", "c")
	room := []string{"a", "b", "c", "spare"}
	parents, cause := room[:2], append(make(api.Fail, 0, 8), everyKind()...)
	spare := cause[:cap(cause)]
	spare[len(cause)] = raise("spare")
	kept := slices.Clone(spare)
	if done, e := x.Make("d", parents); done || e != api.OK {
		t.Fatalf("Make: %v, %v", done, e)
	}
	wantCancel(t, x, "a", cause, "a d")
	if name, ok, e := x.First(parents); name != "a" || !ok || e != api.OK {
		t.Errorf("First: %q, %v, %v", name, ok, e)
	}
	if !slices.Equal(room, []string{"a", "b", "c", "spare"}) || !slices.Equal(spare, kept) {
		t.Errorf("changed: %v, %v", room, spare)
	}
	before := stand(x)
	spoil(room, "c")
	spoil(cause, raise("z"))
	wantSame(t, "arguments that were written over", x, before)
	wantFail(t, x, "d", by("a", everyKind()...))
	wantCancel(t, x, "c", nil, "c")
}
