package fail_test

import (
	"fmt"
	"math"
	"slices"
	"strings"
	"testing"

	"onceweb/api"
	"onceweb/fail"
)

func raise(s string) api.Crack  { return api.Crack{Kind: api.FRaise, Text: s} }
func panics(s string) api.Crack { return api.Crack{Kind: api.FPanic, Text: s} }
func value(s string) api.Crack  { return api.Crack{Kind: api.FValue, Text: s} }
func none(s string) api.Crack   { return api.Crack{Kind: api.FNone, Text: s} }
func cycle(s string) api.Crack  { return api.Crack{Kind: api.FCycle, Text: s} }
func depth() api.Crack          { return api.Crack{Kind: api.FDepth} }
func closed() api.Crack         { return api.Crack{Kind: api.FClosed} }
func long() api.Crack           { return api.Crack{Kind: api.FLong} }
func cell(s string) api.Crack   { return api.Crack{Kind: api.FCell, N: 1, Text: s} }
func join(n int) api.Crack      { return api.Crack{Kind: api.FJoin, N: n} }

// token has n causes: none or one, if it is right.
func token(n int, s string) api.Crack { return api.Crack{Kind: api.FToken, N: n, Text: s} }

func list(l ...api.Crack) api.Fail { return l }

// chain is a failure of so many cracks, each around the one ahead of it.
func chain(cracks int) api.Fail {
	f := list(raise("no"))
	for len(f) < cracks {
		f = append(f, cell("a"))
	}
	return f
}

// broad is a failure of so many cracks, all but the last one of which are leaves.
func broad(cracks int) api.Fail {
	f := slices.Repeat(list(closed()), cracks-1)
	return append(f, join(cracks-1))
}

var (
	words     = strings.Fields("list add sub mul join item size if fail panic")
	keywords  = strings.Fields("cell again tries base factor cap close fine fail panic if then else try wait let in item size")
	longWord  = strings.Repeat("\x00", api.MaxWord)
	longName  = strings.Repeat("z", api.MaxName)
	noNames   = append([]string{"", "A", "_a", "1", "a b", "a ", " a", "$a", "é", "a\x00", longName + "z", longWord + "a"}, keywords...)
	noWords   = []string{"", "less", "same", "try", "cell", "List", "ad", "adds", "add ", " add", "list add", "int"}
	noKinds   = []int{0, -1, 12, 13, 1 << 40, math.MinInt, math.MaxInt}
	leafKinds = []int{api.FRaise, api.FPanic, api.FValue, api.FNone, api.FCycle, api.FDepth, api.FClosed, api.FToken, api.FLong}
)

// told are failures, each with its text.
var told = []struct {
	f api.Fail
	s string
}{
	{list(raise("no")), `fail "no"`},
	{list(raise("")), `fail ""`},
	{list(panics("oh")), `panic "oh"`},
	{list(panics("a\"\\\n\x00\xff: ;)")), `panic "a\"\\\n\x00\xff: ;)"`},
	{list(value("add")), `value add`},
	{list(value("panic")), `value panic`},
	{list(none("x_1")), `none x_1`},
	{list(cycle("cells")), `cycle cells`},
	{list(cycle("az_09"), cell("b_12345678")), `cell b_12345678: cycle az_09`},
	{list(depth()), `depth`},
	{list(closed()), `closed`},
	{list(long()), `long`},
	{list(token(0, "stop")), `token "stop"`},
	{list(cycle("a"), token(1, "stop")), `token "stop": cycle a`},
	{list(token(0, "in"), token(1, "out")), `token "out": token "in"`},
	{list(raise("no"), cell("db")), `cell db: fail "no"`},
	{list(raise("no"), cell("db"), cell("app")), `cell app: cell db: fail "no"`},
	{list(cycle("a"), token(1, "stop"), cell("db")), `cell db: token "stop": cycle a`},
	{list(closed(), join(1)), `join(closed)`},
	{list(raise("a"), closed(), join(2)), `join(fail "a"; closed)`},
	{list(raise("no"), cell("a"), panics("oh"), cell("b"), join(2)), `join(cell a: fail "no"; cell b: panic "oh")`},
	{list(depth(), token(1, ""), token(0, ""), long(), join(3), cell("a")), `cell a: join(token "": depth; token ""; long)`},
	{list(closed(), join(1), join(1), depth(), join(1), join(2)), `join(join(join(closed)); join(depth))`},
	{list(raise(longWord), none(longName), join(2)), `join(fail "` + strings.Repeat(`\x00`, api.MaxWord) + `"; none ` + longName + `)`},
}

// wrong are lists of cracks, of a number that may be, that are no failures.
var wrong = []api.Fail{
	nil, {},
	// Parts that are too few.
	list(cell("a")), list(join(1)), list(token(1, "a")), list(closed(), join(2)), list(cell("a"), closed()),
	list(closed(), cell("a"), join(2)), list(closed(), depth(), join(2), join(2)), list(join(2), closed(), depth()),
	// Wholes that are left.
	list(closed(), closed()), list(closed(), depth(), cell("a")), list(closed(), depth(), long(), join(2)),
	list(closed(), join(1), closed()), list(closed(), token(0, "a")), list(token(0, "a"), closed()),
	// An N that the kind may not have.
	list(closed(), api.Crack{Kind: api.FRaise, N: 1}), list(closed(), api.Crack{Kind: api.FPanic, N: 1}),
	list(closed(), api.Crack{Kind: api.FValue, N: 1, Text: "add"}), list(closed(), api.Crack{Kind: api.FNone, N: 1, Text: "a"}),
	list(closed(), api.Crack{Kind: api.FCycle, N: 1, Text: "a"}), list(closed(), api.Crack{Kind: api.FDepth, N: 1}),
	list(closed(), api.Crack{Kind: api.FClosed, N: 1}), list(closed(), api.Crack{Kind: api.FLong, N: 1}),
	list(closed(), depth(), token(2, "a")), list(closed(), depth(), api.Crack{Kind: api.FCell, N: 2, Text: "a"}),
	list(api.Crack{Kind: api.FCell, Text: "a"}), list(join(0)), list(closed(), join(0)),
	list(api.Crack{Kind: api.FRaise, N: -1}), list(token(-1, "a")), list(join(-1)), list(closed(), join(-1)), list(closed(), closed(), join(-1)),
	list(api.Crack{Kind: api.FCell, N: -1, Text: "a"}), list(closed(), join(math.MaxInt)), list(closed(), join(math.MinInt)),
	// A text that the kind may not have.
	list(raise(longWord + "a")), list(panics(longWord + "a")), list(token(0, longWord+"a")), list(closed(), token(1, longWord+"a")),
	list(api.Crack{Kind: api.FDepth, Text: "a"}), list(api.Crack{Kind: api.FClosed, Text: "a"}), list(api.Crack{Kind: api.FLong, Text: "a"}),
	list(closed(), api.Crack{Kind: api.FJoin, N: 1, Text: "a"}),
}

// noFails calls f with each failure that is none, and with its error.
func noFails(f func(w api.Fail, e api.Errno)) {
	for _, w := range wrong {
		f(w, api.ErrShape)
	}
	for _, kind := range noKinds {
		f(list(api.Crack{Kind: kind}), api.ErrShape)
		f(list(api.Crack{Kind: kind}, cell("a")), api.ErrShape)
	}
	for _, s := range noNames {
		f(list(none(s)), api.ErrShape)
		f(list(cycle(s)), api.ErrShape)
		f(list(closed(), cell(s)), api.ErrShape)
	}
	for _, s := range noWords {
		f(list(value(s)), api.ErrShape)
	}
	f(chain(api.MaxCracks+1), api.ErrLong)
	f(broad(api.MaxCracks+1), api.ErrLong)
	f(make(api.Fail, api.MaxCracks+1), api.ErrLong)
	f(make(api.Fail, api.MaxCracks), api.ErrShape)
}

// brief is the beginning of what v is told as: some failures are very long.
func brief(v any) string {
	s := fmt.Sprint(v)
	return s[:min(len(s), 200)]
}

func wantCode(t *testing.T, what string, got, want api.Errno) {
	t.Helper()
	if got != want {
		t.Errorf("%s: %v, want %v", what, got, want)
	}
}

func wantFail(t *testing.T, what string, got api.Fail, e api.Errno, want api.Fail) {
	t.Helper()
	if e != api.OK || !slices.Equal(got, want) {
		t.Errorf("%s: %s, %v; want %s", what, brief(got), e, brief(want))
	}
}

func wantNoFail(t *testing.T, what string, got api.Fail, e, want api.Errno) {
	t.Helper()
	if e != want || len(got) != 0 {
		t.Errorf("%s: %s, %v; want none, %v", what, brief(got), e, want)
	}
}

// 3.1

func TestCheckOfRightOnes(t *testing.T) {
	for _, c := range told {
		wantCode(t, c.s, fail.Check(c.f), api.OK)
	}
	for _, f := range []api.Fail{
		chain(api.MaxCracks), broad(api.MaxCracks), list(panics(longWord)), list(token(0, longWord)), list(closed(), token(1, longWord)), list(closed(), cell(longName)),
	} {
		wantCode(t, "at the limits", fail.Check(f), api.OK)
	}
	for _, w := range words {
		wantCode(t, w, fail.Check(list(value(w))), api.OK)
	}
}

func TestCheckOfWrongOnes(t *testing.T) {
	noFails(func(w api.Fail, e api.Errno) {
		if got := fail.Check(w); got != e {
			t.Errorf("Check(%s): %v, want %v", brief(w), got, e)
		}
	})
}

func TestLeaf(t *testing.T) {
	for _, c := range []api.Crack{
		raise("no"), raise(""), raise(longWord), panics("oh"), panics(longWord), none("a"), none(longName), cycle("x_1"), depth(), closed(), token(0, ""), token(0, longWord), long(),
	} {
		f, e := fail.Leaf(c.Kind, c.Text)
		wantFail(t, "Leaf", f, e, list(c))
	}
	for _, w := range words {
		f, e := fail.Leaf(api.FValue, w)
		wantFail(t, w, f, e, list(value(w)))
	}
}

func TestLeafOfWrongOnes(t *testing.T) {
	for _, kind := range append([]int{api.FCell, api.FJoin}, noKinds...) {
		for _, s := range []string{"", "a", longWord + "a"} {
			f, e := fail.Leaf(kind, s)
			wantNoFail(t, "a kind that is no leaf's", f, e, api.ErrRange)
		}
	}
	for _, kind := range leafKinds {
		f, e := fail.Leaf(kind, longWord+"a")
		wantNoFail(t, "a text that is too long", f, e, api.ErrLong)
	}
	for _, s := range noNames {
		if len(s) > api.MaxWord {
			continue
		}
		for _, kind := range []int{api.FNone, api.FCycle} {
			f, e := fail.Leaf(kind, s)
			wantNoFail(t, "no name", f, e, api.ErrForm)
		}
	}
	for _, s := range noWords {
		f, e := fail.Leaf(api.FValue, s)
		wantNoFail(t, "no operation", f, e, api.ErrForm)
	}
	for _, kind := range []int{api.FDepth, api.FClosed, api.FLong} {
		for _, s := range []string{"a", " ", longWord} {
			f, e := fail.Leaf(kind, s)
			wantNoFail(t, "a text where none may stand", f, e, api.ErrForm)
		}
	}
}

// 3.2

func TestWrap(t *testing.T) {
	for _, c := range told {
		f, e := fail.Wrap("db", c.f)
		wantFail(t, "Wrap of "+c.s, f, e, append(slices.Clone(c.f), cell("db")))
	}
	f, e := fail.Wrap(longName, list(closed()))
	wantFail(t, "the longest name", f, e, list(closed(), cell(longName)))
	f, e = fail.Wrap("a", chain(api.MaxCracks-1))
	wantFail(t, "the most cracks", f, e, chain(api.MaxCracks))
	f, e = fail.Wrap("a", chain(api.MaxCracks))
	wantFail(t, "one crack more", f, e, list(long()))
}

func TestWrapOfWrongOnes(t *testing.T) {
	for _, s := range noNames {
		for _, g := range []api.Fail{list(closed()), nil, chain(api.MaxCracks + 1)} {
			f, e := fail.Wrap(s, g)
			wantNoFail(t, "no name", f, e, api.ErrForm)
		}
	}
	noFails(func(w api.Fail, want api.Errno) {
		f, e := fail.Wrap("a", w)
		wantNoFail(t, "Wrap", f, e, want)
	})
}

func TestToken(t *testing.T) {
	for _, s := range []string{"", "stop", longWord} {
		for _, cause := range []api.Fail{nil, {}} {
			f, e := fail.Token(s, cause)
			wantFail(t, "without a cause", f, e, list(token(0, s)))
		}
		for _, c := range told {
			f, e := fail.Token(s, c.f)
			wantFail(t, "by "+c.s, f, e, append(slices.Clone(c.f), token(1, s)))
		}
	}
	f, e := fail.Token("", broad(api.MaxCracks-1))
	wantFail(t, "the most cracks", f, e, append(broad(api.MaxCracks-1), token(1, "")))
	f, e = fail.Token("", broad(api.MaxCracks))
	wantFail(t, "one crack more", f, e, list(long()))
}

func TestTokenOfWrongOnes(t *testing.T) {
	for _, cause := range []api.Fail{nil, list(closed()), list(join(9)), chain(api.MaxCracks + 1)} {
		f, e := fail.Token(longWord+"a", cause)
		wantNoFail(t, "a text that is too long", f, e, api.ErrLong)
	}
	noFails(func(w api.Fail, want api.Errno) {
		if len(w) > 0 {
			f, e := fail.Token("stop", w)
			wantNoFail(t, "Token", f, e, want)
		}
	})
}

func TestJoin(t *testing.T) {
	a, b, c := list(raise("a")), list(closed(), cell("b")), list(depth(), long(), join(2))
	for _, l := range [][]api.Fail{nil, {}, {nil}, {nil, {}, nil}, make([]api.Fail, api.MaxItems)} {
		f, e := fail.Join(l)
		wantFail(t, "none, or empty ones", f, e, nil)
	}
	for _, l := range [][]api.Fail{{a}, {nil, a}, {a, {}}, {{}, a, nil}} {
		f, e := fail.Join(l)
		wantFail(t, "one", f, e, list(raise("a"), join(1)))
	}
	for _, l := range [][]api.Fail{{a, b, c}, {nil, a, nil, b, {}, c, nil}} {
		f, e := fail.Join(l)
		wantFail(t, "three", f, e, list(raise("a"), closed(), cell("b"), depth(), long(), join(2), join(3)))
	}
	f, e := fail.Join([]api.Fail{a, a})
	wantFail(t, "one twice", f, e, list(raise("a"), raise("a"), join(2)))
}

func TestJoinAtItsLimits(t *testing.T) {
	l := make([]api.Fail, api.MaxItems+1)
	for i := range api.MaxCracks - 1 {
		l[i*3] = list(closed())
	}
	f, e := fail.Join(l[:api.MaxItems])
	wantFail(t, "the most cracks", f, e, broad(api.MaxCracks))
	l[1] = list(closed())
	f, e = fail.Join(l[:api.MaxItems])
	wantFail(t, "one crack more", f, e, list(long()))
	f, e = fail.Join([]api.Fail{chain(api.MaxCracks - 1)})
	wantFail(t, "one of many cracks", f, e, append(chain(api.MaxCracks-1), join(1)))
	f, e = fail.Join([]api.Fail{nil, chain(api.MaxCracks)})
	wantFail(t, "one of too many", f, e, list(long()))
	f, e = fail.Join(slices.Repeat([]api.Fail{broad(api.MaxCracks)}, api.MaxItems))
	wantFail(t, "as many as may be, as long as may be", f, e, list(long()))
	f, e = fail.Join(l)
	wantNoFail(t, "one member more", f, e, api.ErrLong)
	f, e = fail.Join(make([]api.Fail, api.MaxItems+1))
	wantNoFail(t, "one empty member more", f, e, api.ErrLong)
	l[0] = list(join(9))
	f, e = fail.Join(l)
	wantNoFail(t, "one member more, the first wrong", f, e, api.ErrLong)
}

func TestJoinOfWrongOnes(t *testing.T) {
	right := broad(api.MaxCracks)
	noFails(func(w api.Fail, want api.Errno) {
		if len(w) == 0 {
			return
		}
		for _, l := range [][]api.Fail{{w}, {nil, right, right, w}, {w, right}} {
			f, e := fail.Join(l)
			wantNoFail(t, "Join", f, e, want)
		}
	})
	f, e := fail.Join([]api.Fail{nil, list(join(9)), chain(api.MaxCracks + 1)})
	wantNoFail(t, "the first wrong one is told", f, e, api.ErrShape)
	f, e = fail.Join([]api.Fail{nil, chain(api.MaxCracks + 1), list(join(9))})
	wantNoFail(t, "the first wrong one is told", f, e, api.ErrLong)
}

// 3.3

// mixed is: cell a: join(token "t": cell b: fail "x"; join(closed; cell a: depth); token "u").
func mixed() api.Fail {
	return list(raise("x"), cell("b"), token(1, "t"), closed(), depth(), cell("a"), join(2), token(0, "u"), join(3), cell("a"))
}

func TestParts(t *testing.T) {
	want := [][]int{nil, {0}, {1}, nil, nil, {4}, {3, 5}, nil, {2, 6, 7}, {8}}
	for at, w := range want {
		if l, e := fail.Parts(mixed(), at); e != api.OK || !slices.Equal(l, w) {
			t.Errorf("Parts at %d: %v, %v; want %v", at, l, e, w)
		}
	}
	l, e := fail.Parts(broad(api.MaxCracks), api.MaxCracks-1)
	if e != api.OK || len(l) != api.MaxCracks-1 || l[0] != 0 || !slices.IsSorted(l) || l[len(l)-1] != api.MaxCracks-2 {
		t.Errorf("Parts of many: %v, %v", l, e)
	}
}

func TestPartsOfWrongOnes(t *testing.T) {
	for _, f := range []api.Fail{mixed(), list(closed())} {
		for _, at := range []int{-1, len(f), len(f) + 1, math.MinInt, math.MaxInt} {
			if l, e := fail.Parts(f, at); len(l) != 0 || e != api.ErrRange {
				t.Errorf("Parts at %d: %v, %v", at, l, e)
			}
		}
	}
	noFails(func(w api.Fail, want api.Errno) {
		for _, at := range []int{-1, 0, len(w)} {
			if l, e := fail.Parts(w, at); len(l) != 0 || e != want {
				t.Errorf("Parts(%s, %d): %v, %v", brief(w), at, l, e)
			}
		}
	})
}

func TestIs(t *testing.T) {
	f := mixed()
	in := []api.Fail{f[:1], f[:2], f[:3], f[3:4], f[4:5], f[4:6], f[3:7], f[7:8], f[:9], f}
	for _, g := range in {
		if is, e := fail.Is(f, g); !is || e != api.OK {
			t.Errorf("Is(%v): %v, %v", g, is, e)
		}
	}
	out := []api.Fail{
		list(raise("y")), list(panics("x")), list(raise("")), list(raise("x"), cell("a")), list(raise("x"), token(1, "t")), list(token(0, "t")),
		list(closed(), depth(), join(2)), list(closed(), cell("a")), list(closed(), join(1)), list(long()), list(raise("x"), cell("b"), token(1, "u")),
		append(slices.Clone(f), cell("a")), append(slices.Clone(f[:9]), cell("b")), append(slices.Clone(f[:9]), token(1, "a")),
		list(depth(), cell("a"), closed(), join(2)), list(closed(), depth(), cell("a"), join(2), token(0, "u"), join(2)),
	}
	for _, g := range out {
		if is, e := fail.Is(f, g); is || e != api.OK {
			t.Errorf("Is(%v): %v, %v", g, is, e)
		}
	}
	if is, e := fail.Is(chain(api.MaxCracks), chain(api.MaxCracks-1)); !is || e != api.OK {
		t.Errorf("Is of a long one: %v, %v", is, e)
	}
	if is, e := fail.Is(chain(api.MaxCracks-1), chain(api.MaxCracks)); is || e != api.OK {
		t.Errorf("Is of what is longer: %v, %v", is, e)
	}
}

func TestIsOfWrongOnes(t *testing.T) {
	noFails(func(w api.Fail, want api.Errno) {
		for _, g := range []api.Fail{mixed(), w, nil, list(join(9)), chain(api.MaxCracks + 1)} {
			if is, e := fail.Is(w, g); is || e != want {
				t.Errorf("Is(%s, ..): %v, %v", brief(w), is, e)
			}
		}
		if is, e := fail.Is(mixed(), w); is || e != want {
			t.Errorf("Is(.., %s): %v, %v", brief(w), is, e)
		}
	})
}

// allKinds are a failure of each kind, and no other one but a closed, at the kind's place.
var allKinds = []api.Fail{
	api.FRaise: list(raise("a")), api.FPanic: list(panics("a")), api.FValue: list(value("if")), api.FNone: list(none("a")), api.FCycle: list(cycle("a")), api.FDepth: list(depth()),
	api.FClosed: list(closed()), api.FToken: list(token(0, "a")), api.FCell: list(closed(), cell("a")), api.FJoin: list(closed(), join(1)), api.FLong: list(long()),
}

func TestHas(t *testing.T) {
	for at := api.FRaise; at <= api.FLong; at++ {
		whole := append(slices.Clone(allKinds[at]), depth(), join(2))
		for kind := api.FRaise; kind <= api.FLong; kind++ {
			want := kind == at || kind == api.FDepth || kind == api.FJoin || kind == api.FClosed && (at == api.FCell || at == api.FJoin)
			if has, e := fail.Has(whole, kind); has != want || e != api.OK {
				t.Errorf("Has(%v, %d): %v, %v", whole, kind, has, e)
			}
		}
	}
}

func TestFirst(t *testing.T) {
	f := mixed()
	for _, c := range []struct {
		f    api.Fail
		kind int
		want api.Fail
	}{
		{f, api.FRaise, f[:1]}, {f, api.FToken, f[:3]}, {f, api.FClosed, f[3:4]}, {f, api.FDepth, f[4:5]}, {f, api.FCell, f}, {f, api.FJoin, f[:9]},
		{f[:9], api.FCell, f[:2]}, {f[3:7], api.FCell, f[4:6]},
		{list(raise("a"), raise("b"), join(2)), api.FRaise, list(raise("a"))},
		{list(token(0, "in"), token(1, "out")), api.FToken, list(token(0, "in"), token(1, "out"))},
		{list(closed(), depth(), cell("a"), cell("b"), long(), cell("c"), join(3)), api.FCell, list(depth(), cell("a"), cell("b"))},
		{list(closed(), join(1), closed(), depth(), join(2), cell("a"), join(2), closed(), join(1), join(2), cell("b")), api.FCell,
			list(closed(), join(1), closed(), depth(), join(2), cell("a"), join(2), closed(), join(1), join(2), cell("b"))},
	} {
		g, e := fail.First(c.f, c.kind)
		wantFail(t, "First", g, e, c.want)
	}
	for kind := api.FRaise; kind <= api.FLong; kind++ {
		g, e := fail.First(allKinds[kind], kind)
		wantFail(t, "First of itself", g, e, allKinds[kind])
	}
	for _, kind := range []int{api.FPanic, api.FValue, api.FNone, api.FCycle, api.FLong} {
		g, e := fail.First(f, kind)
		wantNoFail(t, "First of what is not there", g, e, api.ErrNone)
	}
	g, e := fail.First(chain(api.MaxCracks), api.FRaise)
	wantFail(t, "First of a long one", g, e, list(raise("no")))
}

func TestHasAndFirstOfWrongOnes(t *testing.T) {
	look := func(f api.Fail, kind int, want api.Errno) {
		t.Helper()
		if has, e := fail.Has(f, kind); has || e != want {
			t.Errorf("Has(%s, %d): %v, %v; want %v", brief(f), kind, has, e, want)
		}
		g, e := fail.First(f, kind)
		wantNoFail(t, "First", g, e, want)
	}
	for _, kind := range noKinds {
		look(mixed(), kind, api.ErrRange)
		look(list(api.Crack{Kind: kind}), kind, api.ErrShape)
		look(chain(api.MaxCracks+1), kind, api.ErrLong)
	}
	noFails(func(w api.Fail, want api.Errno) { look(w, api.FClosed, want) })
}

func TestLeaves(t *testing.T) {
	for _, c := range []struct {
		f    api.Fail
		want []api.Crack
	}{
		{mixed(), list(raise("x"), closed(), depth(), token(0, "u"))},
		{list(token(0, "")), list(token(0, ""))},
		{list(closed(), token(1, "")), list(closed())},
		{list(closed(), closed(), join(2)), list(closed(), closed())},
		{chain(api.MaxCracks), list(raise("no"))},
		{broad(api.MaxCracks), slices.Repeat(list(closed()), api.MaxCracks-1)},
	} {
		l, e := fail.Leaves(c.f)
		if e != api.OK || len(l) != len(c.want) {
			t.Errorf("Leaves(%s): %d, %v", brief(c.f), len(l), e)
			continue
		}
		for i, leaf := range l {
			wantFail(t, "a leaf", leaf, e, list(c.want[i]))
		}
	}
}

func TestPath(t *testing.T) {
	for _, c := range []struct {
		f    api.Fail
		want string
	}{
		{list(raise("no")), ""},
		{list(raise("no"), cell("db")), "db"},
		{list(raise("no"), cell("db"), cell("app")), "app db"},
		{list(raise("no"), cell("db"), cell("db")), "db db"},
		{list(cycle("a"), token(1, "stop"), cell("db")), "db"},
		{list(closed(), cell("c"), token(1, "stop"), cell("b"), join(1), cell("a")), "a b c"},
		{mixed(), "a"},
		{mixed()[:9], ""},
		{list(closed(), cell("b"), depth(), cell("c"), join(2), token(1, ""), cell("a")), "a"},
		{list(token(0, "t"), cell("a"), token(1, "u")), "a"},
		{chain(api.MaxCracks), strings.Repeat("a ", api.MaxCracks-1)},
	} {
		if l, e := fail.Path(c.f); e != api.OK || !slices.Equal(l, strings.Fields(c.want)) {
			t.Errorf("Path(%s): %v, %v; want %.200s", brief(c.f), l, e, c.want)
		}
	}
}

func TestDeep(t *testing.T) {
	for _, c := range []struct {
		f    api.Fail
		want int
	}{
		{list(raise("no")), 1},
		{list(token(0, "no")), 1},
		{list(closed(), token(1, "no")), 2},
		{list(closed(), closed(), join(2)), 2},
		{mixed(), 5},
		{mixed()[3:7], 3},
		{list(closed(), cell("a"), cell("b"), depth(), join(2)), 4},
		{list(depth(), closed(), cell("a"), cell("b"), join(2)), 4},
		{chain(api.MaxCracks), api.MaxCracks},
		{broad(api.MaxCracks), 2},
	} {
		if n, e := fail.Deep(c.f); n != c.want || e != api.OK {
			t.Errorf("Deep(%s): %d, %v; want %d", brief(c.f), n, e, c.want)
		}
	}
}

func TestLooksOfWrongOnes(t *testing.T) {
	noFails(func(w api.Fail, want api.Errno) {
		if l, e := fail.Leaves(w); len(l) != 0 || e != want {
			t.Errorf("Leaves(%s): %v, %v", brief(w), l, e)
		}
		if l, e := fail.Path(w); len(l) != 0 || e != want {
			t.Errorf("Path(%s): %v, %v", brief(w), l, e)
		}
		if n, e := fail.Deep(w); n != 0 || e != want {
			t.Errorf("Deep(%s): %v, %v", brief(w), n, e)
		}
		if s, e := fail.Print(w); s != "" || e != want {
			t.Errorf("Print(%s): %.200q, %v", brief(w), s, e)
		}
	})
}

// 3.4

func TestPrintAndParse(t *testing.T) {
	for _, c := range told {
		if s, e := fail.Print(c.f); s != c.s || e != api.OK {
			t.Errorf("Print: %.200s, %v; want %.200s", s, e, c.s)
		}
		f, e := fail.Parse(c.s)
		wantFail(t, "Parse of "+c.s[:min(60, len(c.s))], f, e, c.f)
	}
	for _, w := range words {
		if s, e := fail.Print(list(value(w))); s != "value "+w || e != api.OK {
			t.Errorf("Print: %s, %v", s, e)
		}
		f, e := fail.Parse("value " + w)
		wantFail(t, "Parse of value "+w, f, e, list(value(w)))
	}
}

func TestPrintAtItsLimits(t *testing.T) {
	s, e := fail.Print(chain(api.MaxCracks))
	if s != strings.Repeat("cell a: ", api.MaxCracks-1)+`fail "no"` || e != api.OK {
		t.Errorf("a long chain: %d bytes, %v", len(s), e)
	}
	s, e = fail.Print(broad(api.MaxCracks))
	if s != "join("+strings.Repeat("closed; ", api.MaxCracks-2)+"closed)" || e != api.OK {
		t.Errorf("many parts: %d bytes, %v", len(s), e)
	}
	// Far longer than what may be read: nothing limits what is told.
	f := list(token(0, longWord))
	for len(f) < api.MaxCracks {
		f = append(f, token(1, longWord))
	}
	one := `token "` + strings.Repeat(`\x00`, api.MaxWord) + `"`
	s, e = fail.Print(f)
	if s != strings.Repeat(one+": ", api.MaxCracks-1)+one || e != api.OK {
		t.Errorf("long texts: %d bytes, %v", len(s), e)
	}
	g, e := fail.Parse(s)
	wantNoFail(t, "Parse of it", g, e, api.ErrLong)
}

// noTexts are the texts of no failure.
var noTexts = []string{
	"", " ", "no", "a", `"no"`, "ok", "error", "fails", "FAIL", "Fail \"no\"", "0", "\x00", "é",
	// Blanks too many, or too few.
	` fail "no"`, `fail "no" `, `fail  "no"`, `fail"no"`, "fail\t\"no\"", "fail \"no\"\n", "value  add", "value add ", "valueadd", "none  a", "nonea", "cycle a ", " closed", "closed ",
	`token  "a"`, `token"a"`, `token "a":closed`, `token "a":  closed`, `token "a" : closed`, `token "a": `, "cell a:closed", "cell a:  closed", "cell a : closed", "cell  a: closed", "cella: closed",
	"join( closed)", "join(closed )", "join (closed)", "join(closed;depth)", "join(closed;  depth)", "join(closed ; depth)",
	// A bracket, a colon, a part, a quote that lacks, or one too many.
	"join", "join(", "join()", "join)", "joinclosed)", "join(closed", "join(closed; ", "join(closed; )", "join(; closed)", "join(closed;)", "join(closed; depth", "join(closed))", "join((closed))", "join[closed]", "join(closed, depth)",
	"join(join(closed)", "(closed)", "join(closed; ; depth)", "join(closed)(depth)", "join a(closed)", `join "a"(closed)`,
	"cell a", "cell a:", "cell a: ", "cell a closed", "cell a; closed", "cell : closed", "cell: closed", "cell a:: closed", "cell a: closed: depth", "cell a(closed)",
	`token "a" closed`, `token "a":`, `token: closed`, `token : closed`, `token "a": closed: depth`, `token`, `token `,
	`fail "no`, `fail no"`, `fail "`, `fail`, `fail `, `fail ""no"`, `fail 'no'`, `fail "\`, `fail "no\"`, `fail "no": closed`, `fail "no"(closed)`, `panic`, `panic oh`, `panic "oh": closed`,
	"value", "value ", `value "add"`, "none", "none ", `none "a"`, "cycle", "cycle ", `cycle "a"`, "depth a", `depth ""`, "depth: closed", "closed: depth", "long(closed)", "none a: closed", "value add: closed", "cycle a(closed)",
	// Something behind the end, or two of them.
	"closed closed", "closedx", "closed_", "closed0", "closed.", "closed\x00", "longs", "depths", `fail "a""b"`, `fail "a"b`, `fail "a" "b"`, "none a b", "cycle a-b", "join(closed)closed", "join(closed) ", "cell a: closed)", "value add sub", "value add; sub",
	// Texts that are not quoted in their one form.
	`fail no`, "fail \"a\nb\"", `fail "\x41"`, `fail "\xC8"`, `fail "\t"`, "fail \"\xff\"", `fail "é"`, `token "\x0A"`, `fail "\x0a"`, `panic "\x"`,
}

func TestParseOfWrongOnes(t *testing.T) {
	refuse := func(s string) {
		t.Helper()
		if f, e := fail.Parse(s); len(f) != 0 || e != api.ErrForm {
			t.Errorf("Parse(%.80q): %s, %v", s, brief(f), e)
		}
	}
	for _, s := range noTexts {
		refuse(s)
		refuse("cell a: " + s)
		refuse(`token "a": ` + s)
		refuse("join(" + s + ")")
	}
	for _, s := range []string{"closed; depth", `token "a"; closed`} {
		refuse(s)
		refuse("cell a: " + s)
	}
	for _, s := range noNames {
		refuse("none " + s)
		refuse("cycle " + s)
		refuse("cell " + s + ": closed")
	}
	for _, s := range noWords {
		refuse("value " + s)
	}
	for _, word := range []string{"fail", "panic", "token"} {
		refuse(word + ` "` + strings.Repeat("a", api.MaxWord+1) + `"`)
	}
	refuse(strings.Repeat("cell a: ", api.MaxCracks) + "closed")
	refuse("join(" + strings.Repeat("closed; ", api.MaxCracks-1) + "closed)")
	refuse(strings.Repeat("join(", api.MaxText/5))
	refuse(strings.Repeat("cell a: ", api.MaxText/8))
	refuse(strings.Repeat(`token "": `, api.MaxText/10))
	refuse(strings.Repeat("join(", api.MaxText/12) + "depth" + strings.Repeat(")", api.MaxText/12))
	refuse(strings.Repeat(" ", api.MaxText))
}

func TestParseAtItsLimits(t *testing.T) {
	f, e := fail.Parse(strings.Repeat("cell a: ", api.MaxCracks-1) + `fail "no"`)
	wantFail(t, "a long chain", f, e, chain(api.MaxCracks))
	f, e = fail.Parse("join(" + strings.Repeat("closed; ", api.MaxCracks-2) + "closed)")
	wantFail(t, "many parts", f, e, broad(api.MaxCracks))

	// Fifteen texts of MaxWord bytes, and one that fills what is left.
	want, parts := api.Fail{}, []string{}
	for range 15 {
		text := strings.Repeat("a", api.MaxWord)
		want, parts = append(want, raise(text)), append(parts, `fail "`+text+`"`)
	}
	last := strings.Repeat("b", api.MaxText-len("join("+strings.Join(parts, "; ")+`; fail "")`))
	want, parts = append(want, raise(last), join(16)), append(parts, `fail "`+last+`"`)
	longest := "join(" + strings.Join(parts, "; ") + ")"
	if len(longest) != api.MaxText || len(last) > api.MaxWord {
		t.Fatalf("the test's own text is off: %d, %d", len(longest), len(last))
	}
	f, e = fail.Parse(longest)
	wantFail(t, "the longest text", f, e, want)
	for _, s := range []string{longest + "x", strings.Replace(longest, "b", "bb", 1), strings.Repeat(" ", api.MaxText+1), strings.Repeat("cell a: ", api.MaxText/8) + "closed"} {
		f, e = fail.Parse(s)
		wantNoFail(t, "a text that is too long", f, e, api.ErrLong)
	}
	f, e = fail.Parse(strings.Replace(longest, `"a`, `"`, 1))
	want[0] = raise(want[0].Text[1:])
	wantFail(t, "one byte less", f, e, want)
}

// The chapter's examples.

func TestExamples(t *testing.T) {
	no, e := fail.Leaf(api.FRaise, "no")
	wantFail(t, "Leaf", no, e, list(raise("no")))
	db, e := fail.Wrap("db", no)
	wantFail(t, "Wrap", db, e, list(raise("no"), cell("db")))
	app, _ := fail.Wrap("app", db)
	if l, e := fail.Path(app); e != api.OK || !slices.Equal(l, []string{"app", "db"}) {
		t.Errorf("Path: %v, %v", l, e)
	}
	two, _ := fail.Join([]api.Fail{nil, list(raise("a")), list(closed())})
	if s, e := fail.Print(two); s != `join(fail "a"; closed)` || e != api.OK {
		t.Errorf("Print: %s, %v", s, e)
	}
	if is, e := fail.Is(two, list(closed())); !is || e != api.OK {
		t.Errorf("Is: %v, %v", is, e)
	}
	first, e := fail.First(two, api.FRaise)
	wantFail(t, "First", first, e, list(raise("a")))
	three, e := fail.Parse(`cell db: token "stop": cycle a`)
	wantFail(t, "Parse", three, e, list(cycle("a"), token(1, "stop"), cell("db")))
	f, e := fail.Parse("fail no")
	wantNoFail(t, "Parse", f, e, api.ErrForm)
	f, e = fail.Leaf(api.FCell, "a")
	wantNoFail(t, "Leaf", f, e, api.ErrRange)
	f, e = fail.Leaf(api.FNone, "A")
	wantNoFail(t, "Leaf", f, e, api.ErrForm)
}
