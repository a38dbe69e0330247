package fail_test

import (
	"math/rand"
	"slices"
	"strings"
	"testing"

	"onceweb/api"
	"onceweb/fail"
	"onceweb/lex"
)

// tree is a failure with its parts hung on it: the chapter again, by recursion instead of stacks.
type tree struct {
	crack api.Crack
	at    int
	parts []*tree
}

// grow is the tree whose whole ends at the place at, and how many cracks are left ahead of it; nil, if they are too few.
func grow(f api.Fail, at int) (*tree, int) {
	if at < 0 || f[at].N < 0 {
		return nil, 0
	}
	t, left := &tree{crack: f[at], at: at}, at
	for range f[at].N {
		var part *tree
		if part, left = grow(f, left-1); part == nil {
			return nil, 0
		}
		t.parts = slices.Insert(t.parts, 0, part)
	}
	return t, left
}

// treeOf is the tree of f; nil, if f (of at most MaxCracks cracks, and without too long texts) is not right.
func treeOf(f api.Fail) *tree {
	t, left := grow(f, len(f)-1)
	if t == nil || left > 0 || !t.right() {
		return nil
	}
	return t
}

func (t *tree) right() bool {
	n, s, ok := t.crack.N, t.crack.Text, false
	switch t.crack.Kind {
	case api.FRaise, api.FPanic:
		ok = n == 0
	case api.FValue:
		ok = n == 0 && slices.Contains(words, s)
	case api.FNone, api.FCycle:
		ok = n == 0 && lex.IsName(s)
	case api.FDepth, api.FClosed, api.FLong:
		ok = n == 0 && s == ""
	case api.FToken:
		ok = n <= 1
	case api.FCell:
		ok = n == 1 && lex.IsName(s)
	case api.FJoin:
		ok = n >= 1 && s == ""
	}
	for _, p := range t.parts {
		ok = ok && p.right()
	}
	return ok
}

// cracks is the tree as a failure again.
func (t *tree) cracks() api.Fail {
	var f api.Fail
	for _, p := range t.parts {
		f = append(f, p.cracks()...)
	}
	return append(f, t.crack)
}

// walk hands each sub-failure to look, a whole ahead of its parts.
func (t *tree) walk(look func(t *tree)) {
	look(t)
	for _, p := range t.parts {
		p.walk(look)
	}
}

func (t *tree) deep() int {
	most := 0
	for _, p := range t.parts {
		most = max(most, p.deep())
	}
	return most + 1
}

func (t *tree) path() []string {
	var names []string
	if t.crack.Kind == api.FCell {
		names = append(names, t.crack.Text)
	}
	if len(t.parts) == 1 {
		names = append(names, t.parts[0].path()...)
	}
	return names
}

func (t *tree) text() string {
	var parts []string
	for _, p := range t.parts {
		parts = append(parts, p.text())
	}
	s := t.crack.Text
	switch t.crack.Kind {
	case api.FRaise:
		return "fail " + lex.Quote(s)
	case api.FPanic:
		return "panic " + lex.Quote(s)
	case api.FValue:
		return "value " + s
	case api.FNone:
		return "none " + s
	case api.FCycle:
		return "cycle " + s
	case api.FDepth:
		return "depth"
	case api.FClosed:
		return "closed"
	case api.FLong:
		return "long"
	case api.FCell:
		return "cell " + s + ": " + parts[0]
	case api.FJoin:
		return "join(" + strings.Join(parts, "; ") + ")"
	}
	return strings.Join(append([]string{"token " + lex.Quote(s)}, parts...), ": ")
}

// some are cracks of every kind, right and wrong ones.
var some = []api.Crack{
	raise("a"), panics(""), value("if"), none("a"), cycle("b"), depth(), closed(), long(), token(0, "t"), token(1, "t"), cell("a"), cell("b"), join(1), join(2), join(3),
	{}, join(0), token(2, "t"), cell("A"), value("a"), {Kind: api.FClosed, Text: "a"}, {Kind: api.FRaise, N: 1}, {Kind: api.FLong + 1},
}

// every calls f with each list of at most most of these cracks.
func every(cracks []api.Crack, most int, f func(f api.Fail)) {
	var walk func(l api.Fail)
	walk = func(l api.Fail) {
		f(l)
		if len(l) == most {
			return
		}
		for _, c := range cracks {
			walk(append(slices.Clone(l), c))
		}
	}
	walk(nil)
}

// few are enough of some to make each shape.
var few = []api.Crack{closed(), raise("a"), token(0, "t"), token(1, "t"), cell("a"), join(1), join(2)}

// small calls f with failures of few cracks, all of those that there are.
func small(f func(f api.Fail)) {
	look := func(l api.Fail) {
		if treeOf(l) != nil {
			f(l)
		}
	}
	every(some, 3, look)
	every(few, 5, look)
}

// grown is a failure by chance, whose longest way has at most deep + 1 cracks.
func grown(r *rand.Rand, deep int) api.Fail {
	texts := []string{"", "a", "\"; ", "\\\n\x00\xff", ": closed", ")"}
	names := []string{"a", "b", "x_1", "closed", "join", longName}
	if deep > 0 {
		switch r.Intn(4) {
		case 0:
			return append(grown(r, deep-1), cell(names[r.Intn(len(names))]))
		case 1:
			return append(grown(r, deep-1), token(1, texts[r.Intn(len(texts))]))
		case 2:
			var f api.Fail
			n := 1 + r.Intn(3)
			for range n {
				f = append(f, grown(r, (deep-1)/2)...)
			}
			return append(f, join(n))
		}
	}
	leaves := []api.Crack{
		raise(texts[r.Intn(len(texts))]), panics(texts[r.Intn(len(texts))]), token(0, texts[r.Intn(len(texts))]), value(words[r.Intn(len(words))]),
		none(names[r.Intn(len(names))]), cycle(names[r.Intn(len(names))]), depth(), closed(), long(),
	}
	return list(leaves[r.Intn(len(leaves))])
}

// chances calls f with failures by chance; the seed is fixed, so that each run is the same.
func chances(f func(r *rand.Rand, f api.Fail)) {
	r := rand.New(rand.NewSource(3))
	for range 3000 {
		f(r, grown(r, 12))
	}
}

// 3.1

func TestCheckOfAllSmallOnes(t *testing.T) {
	right := 0
	every(some, 4, func(f api.Fail) {
		want := api.ErrShape
		if treeOf(f) != nil {
			want = api.OK
			right++
		}
		if e := fail.Check(f); e != want {
			t.Errorf("Check(%v): %v, want %v", f, e, want)
		}
	})
	if right == 0 {
		t.Error("none was right")
	}
}

// 3.3 and 3.4

func TestLooksAgainstTrees(t *testing.T) {
	look := func(f api.Fail) {
		whole := treeOf(f)
		if whole == nil {
			t.Fatalf("the test's own failure is off: %v", f)
		}
		var leaves []api.Crack
		first := [api.FLong + 1]*tree{}
		whole.walk(func(part *tree) {
			wantParts(t, f, part)
			if len(part.parts) == 0 {
				leaves = append(leaves, part.crack)
			}
			if first[part.crack.Kind] == nil {
				first[part.crack.Kind] = part
			}
		})
		wantLeaves(t, f, leaves)
		for kind := api.FRaise; kind <= api.FLong; kind++ {
			wantFirst(t, f, kind, first[kind])
		}
		if l, e := fail.Path(f); e != api.OK || !slices.Equal(l, whole.path()) {
			t.Errorf("Path(%v): %v, %v", f, l, e)
		}
		if n, e := fail.Deep(f); e != api.OK || n != whole.deep() {
			t.Errorf("Deep(%v): %v, %v", f, n, e)
		}
		if s, e := fail.Print(f); e != api.OK || s != whole.text() {
			t.Errorf("Print(%v): %s, %v; want %s", f, s, e, whole.text())
		}
	}
	small(look)
	chances(func(_ *rand.Rand, f api.Fail) { look(f) })
}

func wantParts(t *testing.T, f api.Fail, part *tree) {
	t.Helper()
	var want []int
	for _, p := range part.parts {
		want = append(want, p.at)
	}
	if l, e := fail.Parts(f, part.at); e != api.OK || !slices.Equal(l, want) {
		t.Errorf("Parts(%v, %d): %v, %v; want %v", f, part.at, l, e, want)
	}
}

func wantLeaves(t *testing.T, f api.Fail, want []api.Crack) {
	t.Helper()
	l, e := fail.Leaves(f)
	if e != api.OK || len(l) != len(want) || !slices.Equal(slices.Concat(l...), want) {
		t.Errorf("Leaves(%v): %v, %v; want %v", f, l, e, want)
	}
}

func wantFirst(t *testing.T, f api.Fail, kind int, want *tree) {
	t.Helper()
	g, e := fail.First(f, kind)
	has, hasE := fail.Has(f, kind)
	if hasE != api.OK || has != (want != nil) {
		t.Errorf("Has(%v, %d): %v, %v", f, kind, has, hasE)
	}
	if want == nil {
		wantNoFail(t, "First", g, e, api.ErrNone)
		return
	}
	wantFail(t, "First", g, e, want.cracks())
}

func TestIsAgainstTrees(t *testing.T) {
	r := rand.New(rand.NewSource(33))
	var all []api.Fail
	small(func(f api.Fail) { all = append(all, f) })
	chances(func(_ *rand.Rand, f api.Fail) { all = append(all, f) })
	for _, f := range all {
		var parts []api.Fail
		treeOf(f).walk(func(part *tree) { parts = append(parts, part.cracks()) })
		for _, g := range append(parts, all[r.Intn(len(all))], all[r.Intn(len(all))], all[r.Intn(20)]) {
			want := slices.ContainsFunc(parts, func(p api.Fail) bool { return slices.Equal(p, g) })
			if is, e := fail.Is(f, g); is != want || e != api.OK {
				t.Errorf("Is(%v, %v): %v, %v", f, g, is, e)
			}
		}
	}
}

// 3.5

func TestParseOfPrint(t *testing.T) {
	look := func(f api.Fail) {
		s, e := fail.Print(f)
		wantCode(t, "Print", e, api.OK)
		g, e := fail.Parse(s)
		if len(s) > api.MaxText {
			wantNoFail(t, "too long", g, e, api.ErrLong)
			return
		}
		wantFail(t, s, g, e, f)
	}
	small(look)
	chances(func(_ *rand.Rand, f api.Fail) { look(f) })
}

// wantText asks that s is the text of what it is parsed as, if it is parsed; it tells whether it is.
func wantText(t *testing.T, s string) bool {
	t.Helper()
	f, e := fail.Parse(s)
	if e != api.OK {
		wantNoFail(t, s, f, e, api.ErrForm)
		return false
	}
	if back, e := fail.Print(f); back != s || e != api.OK {
		t.Errorf("Parse(%q): %v, whose text is %q, %v", s, f, back, e)
	}
	return true
}

func TestPrintOfParse(t *testing.T) {
	pieces := []string{"fail", "value", "closed", "token", "cell", "join", " ", ": ", ":", "; ", ";", "(", ")", `"a"`, `"`, "a", "add"}
	parsed := 0
	var walk func(s string, left int)
	walk = func(s string, left int) {
		if wantText(t, s) {
			parsed++
		}
		if left == 0 {
			return
		}
		for _, p := range pieces {
			walk(s+p, left-1)
		}
	}
	walk("", 4)
	for _, front := range []string{"cell a: ", "join(", "join(closed", `token "a"`, `token "a": `, "join(cell a: closed; ", "cell a"} {
		walk(front, 3)
	}
	if parsed == 0 {
		t.Error("none was parsed")
	}
}

func TestParseOfTextsWithOneByteOff(t *testing.T) {
	const bytes = "a0_ :;()\"\\n\n\x00\xffA"
	for _, c := range told {
		if len(c.s) > 100 {
			continue
		}
		for i := range len(c.s) + 1 {
			wantText(t, c.s[:i])
			for j := range len(bytes) {
				wantText(t, c.s[:i]+bytes[j:j+1]+c.s[i:])
				if i < len(c.s) {
					wantText(t, c.s[:i]+bytes[j:j+1]+c.s[i+1:])
				}
			}
			if i < len(c.s) {
				wantText(t, c.s[:i]+c.s[i+1:])
			}
		}
	}
}

// P1: no bytes make Parse panic or go on for ever.

func TestParseOfAnyBytes(t *testing.T) {
	r := rand.New(rand.NewSource(35))
	pieces := []string{`fail "no"`, "closed", "cell a: ", `token "t"`, ": ", "join(", "; ", ")", " ", "value ", "add", "none ", "x", "\"", "\\", "\x00", "\xff", "(", ";"}
	for range 30000 {
		var b strings.Builder
		for range r.Intn(12) {
			b.WriteString(pieces[r.Intn(len(pieces))])
		}
		wantText(t, b.String())
	}
}

// 3.6

func is(t *testing.T, f, g api.Fail) bool {
	t.Helper()
	ok, e := fail.Is(f, g)
	wantCode(t, "Is", e, api.OK)
	return ok
}

func TestWhatIsWrappedIsInIt(t *testing.T) {
	chances(func(r *rand.Rand, f api.Fail) {
		other := grown(r, 6)
		wrapped, e1 := fail.Wrap("a", f)
		cancelled, e2 := fail.Token("t", f)
		joined, e3 := fail.Join([]api.Fail{nil, f, other})
		if e1 != api.OK || e2 != api.OK || e3 != api.OK || !is(t, f, f) {
			t.Fatalf("%v: %v, %v, %v", f, e1, e2, e3)
		}
		for _, g := range []api.Fail{f, other, wrapped, cancelled, joined, grown(r, 0), grown(r, 1)} {
			if is(t, wrapped, g) != (slices.Equal(g, wrapped) || is(t, f, g)) {
				t.Errorf("Is of Wrap of %v: %v", f, g)
			}
			if is(t, cancelled, g) != (slices.Equal(g, cancelled) || is(t, f, g)) {
				t.Errorf("Is of Token of %v: %v", f, g)
			}
			if is(t, joined, g) != (slices.Equal(g, joined) || is(t, f, g) || is(t, other, g)) {
				t.Errorf("Is of Join of %v, %v: %v", f, other, g)
			}
		}
	})
}

func TestIsGoesOn(t *testing.T) {
	var all []api.Fail
	every(few[:6], 3, func(f api.Fail) {
		if treeOf(f) != nil {
			all = append(all, f)
		}
	})
	for _, f := range all {
		for _, g := range all {
			if !is(t, f, g) {
				continue
			}
			for _, h := range all {
				if is(t, g, h) && !is(t, f, h) {
					t.Errorf("%v is %v, which is %v", f, g, h)
				}
			}
		}
	}
}

// 3.7

func TestLooksAgree(t *testing.T) {
	chances(func(_ *rand.Rand, f api.Fail) {
		leaves, _ := fail.Leaves(f)
		for kind := api.FRaise; kind <= api.FLong; kind++ {
			has, _ := fail.Has(f, kind)
			first, e := fail.First(f, kind)
			if has != (e == api.OK) || has && (!is(t, f, first) || first[len(first)-1].Kind != kind) {
				t.Errorf("%v, %d: Has %v, First %v, %v", f, kind, has, first, e)
			}
			// A token may be a leaf and may be none: all other kinds are always the one or the other.
			leaf := slices.ContainsFunc(leaves, func(l api.Fail) bool { return l[0].Kind == kind })
			if leaf && !has || has && !leaf && kind != api.FToken && kind != api.FCell && kind != api.FJoin {
				t.Errorf("%v, %d: Has %v, a leaf %v", f, kind, has, leaf)
			}
		}
		without := 0
		for at := range f {
			if parts, _ := fail.Parts(f, at); len(parts) == 0 {
				without++
			}
		}
		if len(leaves) != without {
			t.Errorf("%v: %d leaves, %d cracks without parts", f, len(leaves), without)
		}
		deep, _ := fail.Deep(f)
		for _, wrap := range []func() (api.Fail, api.Errno){
			func() (api.Fail, api.Errno) { return fail.Wrap("a", f) },
			func() (api.Fail, api.Errno) { return fail.Token("t", f) },
			func() (api.Fail, api.Errno) { return fail.Join([]api.Fail{f}) },
		} {
			g, e := wrap()
			if n, _ := fail.Deep(g); e != api.OK || n != deep+1 {
				t.Errorf("%v: %d deep, wrapped %d", f, deep, n)
			}
		}
	})
}

// R3: what is handed in is left as it is, its spare room too, and an answer is new memory.

// roomy is f in a list with room behind it, which is marked.
func roomy(f api.Fail) (api.Fail, func() bool) {
	room := append(slices.Clone(f), raise("room"), raise("room"))
	kept := slices.Clone(room)
	return room[:len(f)], func() bool { return slices.Equal(room, kept) }
}

func TestWhatIsHandedInIsLeft(t *testing.T) {
	for _, f := range []api.Fail{mixed(), list(closed()), list(join(9)), nil} {
		g, left := roomy(f)
		fail.Check(g)
		fail.Wrap("a", g)
		fail.Token("t", g)
		fail.Join([]api.Fail{g, g})
		fail.Parts(g, len(g)-1)
		fail.Is(g, g)
		fail.Has(g, api.FCell)
		fail.First(g, api.FCell)
		fail.Leaves(g)
		fail.Path(g)
		fail.Deep(g)
		fail.Print(g)
		if !left() {
			t.Errorf("%v was changed", f)
		}
	}
	l := make([]api.Fail, 2, 4)
	l[0] = list(closed())
	fail.Join(l)
	if !slices.Equal(l[0], list(closed())) || l[1] != nil || l[:4][2] != nil || l[:4][3] != nil {
		t.Errorf("Join's list was changed: %v", l[:4])
	}
}

// spoil writes over all of f, its spare room too.
func spoil(f api.Fail) {
	f = f[:cap(f)]
	for i := range f {
		f[i] = api.Crack{Kind: -1}
	}
}

func TestAnswersAreNew(t *testing.T) {
	f, left := roomy(mixed())
	answers := []func() (api.Fail, api.Errno){
		func() (api.Fail, api.Errno) { return fail.Wrap("a", f) },
		func() (api.Fail, api.Errno) { return fail.Token("t", f) },
		func() (api.Fail, api.Errno) { return fail.Join([]api.Fail{f}) },
		func() (api.Fail, api.Errno) { return fail.Join([]api.Fail{chain(api.MaxCracks)}) },
		func() (api.Fail, api.Errno) { return fail.First(f, api.FCell) },
		func() (api.Fail, api.Errno) { return fail.First(f, api.FDepth) },
		func() (api.Fail, api.Errno) { return fail.Leaf(api.FRaise, "a") },
		func() (api.Fail, api.Errno) { return fail.Parse("join(closed; depth)") },
	}
	for i, answer := range answers {
		one, _ := answer()
		kept := slices.Clone(one)
		two, _ := answer()
		spoil(two)
		if !slices.Equal(one, kept) || !left() {
			t.Errorf("answer %d shares memory", i)
		}
		three, e := answer()
		wantFail(t, "the same again", three, e, kept)
	}
	leaves, _ := fail.Leaves(f)
	spoil(leaves[0])
	if !left() || slices.ContainsFunc(leaves[1:], func(l api.Fail) bool { return fail.Check(l) != api.OK }) {
		t.Errorf("leaves share memory: %v", leaves)
	}
	parts, _ := fail.Parts(f, 8)
	clear(parts[:cap(parts)])
	if again, _ := fail.Parts(f, 8); !slices.Equal(again, []int{2, 6, 7}) {
		t.Errorf("Parts again: %v", again)
	}
}
