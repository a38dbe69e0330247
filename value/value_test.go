package value_test

import (
	"fmt"
	"math"
	"slices"
	"strings"
	"testing"
	"unsafe"

	"onceweb/api"
	"onceweb/value"
)

func number(n int) api.Value { return api.Value{{Kind: api.VInt, Int: n}} }

func text(s string) api.Value { return api.Value{{Kind: api.VText, Text: s}} }

// list is the list of those members, whether it is right or not.
func list(members ...api.Value) api.Value {
	return append(slices.Concat(members...), end(len(members)))
}

// end is the atom of a list of n members.
func end(n int) api.Atom { return api.Atom{Kind: api.VList, N: n} }

// broad is a value of so many atoms, all but the last one of which are numbers.
func broad(atoms int) api.Value {
	return append(slices.Repeat(number(1), atoms-1), end(atoms-1))
}

// deep is a value of that depth: inner, which is 1 deep, with lists of one member around it.
func deep(depth int, inner api.Value) api.Value {
	return append(slices.Clone(inner), slices.Repeat(api.Value{end(1)}, depth-1)...)
}

const longest = api.MaxWord

var (
	longText = strings.Repeat("\x00", longest)
	most     = api.MaxInt
)

// told are values, each with its text.
var told = []struct {
	v api.Value
	s string
}{
	{number(0), "0"},
	{number(7), "7"},
	{number(-7), "-7"},
	{number(10), "10"},
	{number(-100), "-100"},
	{number(most), "9007199254740992"},
	{number(-most), "-9007199254740992"},
	{text(""), `""`},
	{text("a"), `"a"`},
	{text("12"), `"12"`},
	{text("-"), `"-"`},
	{text("[1, 2]"), `"[1, 2]"`},
	{text("# a, b"), `"# a, b"`},
	{text("a\"\\\n\x00\t\xff\xc3\xa9"), `"a\"\\\n\x00\x09\xff\xc3\xa9"`},
	{text(longText), `"` + strings.Repeat(`\x00`, longest) + `"`},
	{list(), "[]"},
	{list(number(1)), "[1]"},
	{list(number(-1), number(2)), "[-1, 2]"},
	{list(number(1), text("a"), list()), `[1, "a", []]`},
	{list(list(), number(1)), "[[], 1]"},
	{list(list(), list()), "[[], []]"},
	{list(list()), "[[]]"},
	{list(list(list(number(1)))), "[[[1]]]"},
	{list(list(number(1)), list(number(2), list(text("]")), number(3)), text(", ")), `[[1], [2, ["]"], 3], ", "]`},
	{list(list(list(number(1), number(2)), number(3)), number(4)), "[[[1, 2], 3], 4]"},
	{list(number(1), list(number(2), list(number(3), number(4)))), "[1, [2, [3, 4]]]"},
}

// wrong are lists of atoms, of a number that may be, that are no values.
var wrong = []api.Value{
	nil, {},
	// Members that are too few.
	{end(1)}, {end(math.MaxInt)}, append(number(1), end(2)), append(number(1), end(math.MaxInt)), append(list(number(1), number(2)), end(2)),
	append(api.Value{end(1)}, number(1)...), append(api.Value{end(2)}, list(number(1), number(2))...), list(append(number(1), end(2))),
	// Wholes that are left.
	slices.Concat(number(1), number(2)), slices.Concat(number(1), list()), slices.Concat(list(), number(1)), slices.Concat(text(""), text("")), slices.Concat(list(), list()),
	slices.Concat(number(1), list(number(2))), slices.Concat(list(number(2)), number(1)), slices.Concat(number(1), number(2), api.Value{end(1)}), append(number(1), end(0)),
	// An N that may not be.
	{end(-1)}, append(number(1), end(-1)), append(slices.Concat(number(1), number(2)), end(-1)), {end(math.MinInt)}, append(number(1), end(math.MinInt)),
	{{Kind: api.VInt, N: -1}}, {{Kind: api.VText, N: -1}}, {{Kind: api.VInt, N: 1}}, {{Kind: api.VText, N: 1}},
	append(number(1), api.Atom{Kind: api.VInt, N: 1, Int: 1}), append(number(1), api.Atom{Kind: api.VText, N: 1, Text: "a"}),
	append(slices.Concat(number(1), number(2)), api.Atom{Kind: api.VInt, N: 2}), append(list(), api.Atom{Kind: api.VText, N: 1}),
	// An Int that may not be.
	number(most + 1), number(-most - 1), number(math.MaxInt), number(math.MinInt), list(number(1), number(most+1)), list(number(-most-1), number(1)),
	{{Kind: api.VText, Int: 1}}, {{Kind: api.VText, Int: -1, Text: "a"}}, {{Kind: api.VList, Int: 1}}, {{Kind: api.VList, Int: -1}}, append(number(1), api.Atom{Kind: api.VList, N: 1, Int: 1}),
	// A text that may not be.
	text(longText + "a"), list(text(longText + "a")), list(number(1), text(longText+"a"), number(2)),
	{{Kind: api.VInt, Text: "a"}}, {{Kind: api.VInt, Int: 1, Text: "1"}}, {{Kind: api.VList, Text: "a"}}, append(number(1), api.Atom{Kind: api.VList, N: 1, Text: "a"}),
	// Kinds that are none.
	{{}}, {{Kind: -1}}, {{Kind: 4}}, {{Kind: math.MaxInt}}, {{Kind: math.MinInt}}, {{N: 1}}, append(number(1), api.Atom{N: 1}), append(number(1), api.Atom{Kind: 4, N: 1}), list(api.Value{{}}),
	// Too deep.
	deep(api.MaxNest+1, number(1)), deep(api.MaxNest+1, text("")), deep(api.MaxNest+1, list()), deep(api.MaxAtoms, list()),
	list(number(1), deep(api.MaxNest, number(1))), list(deep(api.MaxNest, number(1)), number(1)), list(deep(api.MaxNest, list()), list()),
	// All of it at once, but not too many.
	make(api.Value, api.MaxAtoms), slices.Repeat(number(1), api.MaxAtoms), slices.Repeat(api.Value{end(1)}, api.MaxAtoms), append(broad(api.MaxAtoms-1), end(2)),
}

// tooLong are lists of too many atoms, whatever else is wrong.
var tooLong = []api.Value{
	broad(api.MaxAtoms + 1), make(api.Value, api.MaxAtoms+1), deep(api.MaxAtoms+1, number(1)), slices.Repeat(number(most+1), api.MaxAtoms+1), slices.Repeat(text(longText+"a"), 2*api.MaxAtoms),
}

// rightAtLimits are values that would be wrong with a little more.
var rightAtLimits = []api.Value{
	broad(api.MaxAtoms), deep(api.MaxNest, number(1)), deep(api.MaxNest, text("")), deep(api.MaxNest, list()), list(number(1), deep(api.MaxNest-1, list()), number(2)),
	number(most), number(-most), text(longText), list(text(longText), number(most), number(-most)), slices.Concat(slices.Repeat(list(), api.MaxAtoms-1), api.Value{end(api.MaxAtoms - 1)}),
	slices.Concat(slices.Repeat(text(longText), api.MaxAtoms-1), api.Value{end(api.MaxAtoms - 1)}),
}

// noValues calls f with each value that is none, and with its error.
func noValues(f func(w api.Value, e api.Errno)) {
	for _, w := range wrong {
		f(w, api.ErrShape)
	}
	for _, w := range tooLong {
		f(w, api.ErrLong)
	}
}

// brief is the beginning of what v is told as: some values are very long.
func brief(v any) string {
	s := fmt.Sprint(v)
	return s[:min(len(s), 200)]
}

func wantValue(t *testing.T, what string, got api.Value, e api.Errno, want api.Value) {
	t.Helper()
	if e != api.OK || !slices.Equal(got, want) {
		t.Errorf("%s: %s, %v; want %s", what, brief(got), e, brief(want))
	}
}

func wantNoValue(t *testing.T, what string, got api.Value, e, want api.Errno) {
	t.Helper()
	if e != want || len(got) != 0 {
		t.Errorf("%s: %s, %v; want none, %v", what, brief(got), e, want)
	}
}

func equalAll(a, b []api.Value) bool {
	return slices.EqualFunc(a, b, func(v, w api.Value) bool { return slices.Equal(v, w) })
}

func wantValues(t *testing.T, what string, got []api.Value, e api.Errno, want []api.Value) {
	t.Helper()
	if e != api.OK || !equalAll(got, want) {
		t.Errorf("%s: %s, %v; want %s", what, brief(got), e, brief(want))
	}
}

func wantNoValues(t *testing.T, what string, got []api.Value, e, want api.Errno) {
	t.Helper()
	if e != want || len(got) != 0 {
		t.Errorf("%s: %s, %v; want none, %v", what, brief(got), e, want)
	}
}

// 7.1

func TestCheckOfRightOnes(t *testing.T) {
	for _, c := range told {
		if e := value.Check(c.v); e != api.OK {
			t.Errorf("Check of %.200s: %v", c.s, e)
		}
	}
	for _, v := range rightAtLimits {
		if e := value.Check(v); e != api.OK {
			t.Errorf("Check(%s): %v", brief(v), e)
		}
	}
}

func TestCheckOfWrongOnes(t *testing.T) {
	noValues(func(w api.Value, want api.Errno) {
		if e := value.Check(w); e != want {
			t.Errorf("Check(%s): %v, want %v", brief(w), e, want)
		}
	})
}

func TestInt(t *testing.T) {
	for _, n := range []int{0, 1, -1, 12, most - 1, most, -most + 1, -most} {
		v, e := value.Int(n)
		wantValue(t, fmt.Sprint(n), v, e, number(n))
	}
	for _, n := range []int{most + 1, -most - 1, math.MaxInt, math.MinInt} {
		v, e := value.Int(n)
		wantNoValue(t, fmt.Sprint(n), v, e, api.ErrRange)
	}
}

func TestText(t *testing.T) {
	for _, s := range []string{"", "a", "\"\n\xff", "12", "[]", longText} {
		v, e := value.Text(s)
		wantValue(t, "Text", v, e, text(s))
	}
	for _, s := range []string{longText + "a", longText + longText} {
		v, e := value.Text(s)
		wantNoValue(t, "a text that is too long", v, e, api.ErrLong)
	}
}

func TestList(t *testing.T) {
	for _, l := range [][]api.Value{nil, {}} {
		v, e := value.List(l)
		wantValue(t, "of none", v, e, list())
	}
	for _, c := range told {
		v, e := value.List([]api.Value{c.v})
		wantValue(t, "of one", v, e, append(slices.Clone(c.v), end(1)))
		v, e = value.List([]api.Value{number(1), c.v, list(), c.v})
		wantValue(t, "of four", v, e, slices.Concat(number(1), c.v, list(), c.v, api.Value{end(4)}))
	}
}

func TestListAtItsLimits(t *testing.T) {
	ones := slices.Repeat([]api.Value{number(1)}, api.MaxItems+1)
	v, e := value.List(ones[:api.MaxAtoms-1])
	wantValue(t, "the most atoms", v, e, broad(api.MaxAtoms))
	v, e = value.List([]api.Value{broad(api.MaxAtoms - 3), text("a"), list()})
	wantValue(t, "the most atoms, in three", v, e, list(broad(api.MaxAtoms-3), text("a"), list()))
	v, e = value.List([]api.Value{number(1), deep(api.MaxNest-1, list())})
	wantValue(t, "the deepest", v, e, list(number(1), deep(api.MaxNest-1, list())))
	v, e = value.List([]api.Value{deep(api.MaxNest-1, number(1)), deep(api.MaxNest-1, text(""))})
	wantValue(t, "the deepest, twice", v, e, list(deep(api.MaxNest-1, number(1)), deep(api.MaxNest-1, text(""))))
	for _, l := range [][]api.Value{
		ones[:api.MaxAtoms], ones[:api.MaxItems], ones, make([]api.Value, api.MaxItems+1),
		{broad(api.MaxAtoms)}, {broad(api.MaxAtoms - 2), number(1), number(1)}, slices.Repeat([]api.Value{broad(api.MaxAtoms)}, api.MaxItems),
		{deep(api.MaxNest, number(1))}, {deep(api.MaxNest, list())}, {number(1), deep(api.MaxNest, text("")), number(2)}, {deep(api.MaxNest, number(1)), broad(api.MaxAtoms)},
	} {
		v, e = value.List(l)
		wantNoValue(t, "one more", v, e, api.ErrLong)
	}
}

func TestListOfWrongOnes(t *testing.T) {
	noValues(func(w api.Value, want api.Errno) {
		for _, l := range [][]api.Value{{w}, {number(1), w}, {w, number(1)}, {broad(api.MaxAtoms), w}, {deep(api.MaxNest, list()), w}, {w, broad(api.MaxAtoms)}} {
			v, e := value.List(l)
			wantNoValue(t, "List", v, e, want)
		}
	})
	v, e := value.List(make([]api.Value, api.MaxItems))
	wantNoValue(t, "as many as may be, all wrong", v, e, api.ErrShape)
	v, e = value.List(append(slices.Repeat([]api.Value{broad(api.MaxAtoms)}, api.MaxItems-1), nil))
	wantNoValue(t, "as many as may be, the last one wrong", v, e, api.ErrShape)
	v, e = value.List([]api.Value{number(1), nil, tooLong[0]})
	wantNoValue(t, "the first wrong one is told", v, e, api.ErrShape)
	v, e = value.List([]api.Value{number(1), tooLong[0], nil})
	wantNoValue(t, "the first wrong one is told", v, e, api.ErrLong)
}

func TestMembers(t *testing.T) {
	for _, l := range [][]api.Value{
		nil, {number(1)}, {text("a")}, {list()}, {list(), list()}, {number(1), text("a"), list()}, {list(number(1), number(2)), number(3), list(list(), text(""))}, {list(list(list(number(1)), number(2)), number(3))},
		{broad(api.MaxAtoms - 1)}, {deep(api.MaxNest-1, list())}, slices.Repeat([]api.Value{list()}, api.MaxAtoms-1),
	} {
		m, e := value.Members(list(l...))
		wantValues(t, "Members", m, e, l)
	}
}

func TestMembersOfWrongOnes(t *testing.T) {
	for _, v := range []api.Value{number(0), number(-most), text(""), text(longText)} {
		m, e := value.Members(v)
		wantNoValues(t, "of no list", m, e, api.ErrState)
	}
	noValues(func(w api.Value, want api.Errno) {
		m, e := value.Members(w)
		wantNoValues(t, "Members", m, e, want)
	})
}

// 7.2

// rising are values, each less than the next one.
var rising = []api.Value{
	number(-most), number(-most + 1), number(-10), number(-9), number(-1), number(0), number(1), number(9), number(10), number(most - 1), number(most),
	text(""), text("\x00"), text("\x00\x00"), text("\x00a"), text(" "), text("10"), text("9"), text("A"), text("Z"), text("a"), text("a\x00"), text("aa"), text("ab"), text("a\xff"), text("b"), text("\x7f"), text("\x80"), text("\xff"), text("\xff\xff"),
	list(),
	list(number(-most)), list(number(-1)), list(number(-1), text("z")), list(number(1)), list(number(1), number(0)), list(number(1), number(0), number(0)), list(number(1), number(1)), list(number(1), text("")), list(number(1), list()), list(number(1), list(), number(-1)), list(number(1), list(number(0))), list(number(2)),
	list(text("")), list(text(""), number(1)), list(text("a")), list(text("a"), list(list())), list(text("aa")),
	list(list()), list(list(), number(0)), list(list(), list()), list(list(number(0))), list(list(number(0)), number(5)), list(list(number(0), number(0))), list(list(number(1))), list(list(text(""))),
	list(list(list())), list(list(list()), number(1)), list(list(list()), list()), list(list(list(), number(1))), list(list(list(number(1)))), list(list(list(text("a")), number(1))),
	deep(api.MaxNest, number(1)), deep(api.MaxNest, list()),
}

func TestCompare(t *testing.T) {
	for i, a := range rising {
		for j, b := range rising {
			want := 0
			if i < j {
				want = -1
			} else if i > j {
				want = 1
			}
			if c, e := value.Compare(slices.Clone(a), b); c != want || e != api.OK {
				t.Errorf("Compare(%s, %s): %d, %v; want %d", brief(a), brief(b), c, e, want)
			}
		}
	}
}

func TestCompareAtItsLimits(t *testing.T) {
	ones, last := broad(api.MaxAtoms), broad(api.MaxAtoms)
	last[api.MaxAtoms-2] = number(2)[0]
	for _, c := range []struct {
		a, b api.Value
		want int
	}{
		{ones, last, -1}, {ones, broad(api.MaxAtoms), 0}, {ones, broad(api.MaxAtoms - 1), 1}, {last, broad(api.MaxAtoms - 1), 1}, {ones, number(most), 1}, {ones, list(list()), -1},
		{text(longText), text(longText[1:]), 1}, {text(longText), text(longText[1:] + "\x01"), -1}, {text(longText), list(), -1},
	} {
		if got, e := value.Compare(c.a, c.b); got != c.want || e != api.OK {
			t.Errorf("Compare(%s, %s): %d, %v; want %d", brief(c.a), brief(c.b), got, e, c.want)
		}
		if got, e := value.Compare(c.b, c.a); got != -c.want || e != api.OK {
			t.Errorf("Compare(%s, %s): %d, %v; want %d", brief(c.b), brief(c.a), got, e, -c.want)
		}
	}
}

func TestCompareOfWrongOnes(t *testing.T) {
	noValues(func(w api.Value, want api.Errno) {
		for _, pair := range [][2]api.Value{{w, number(1)}, {number(1), w}, {w, w}} {
			if c, e := value.Compare(pair[0], pair[1]); c != 0 || e != want {
				t.Errorf("Compare(%s, %s): %d, %v; want %v", brief(pair[0]), brief(pair[1]), c, e, want)
			}
		}
	})
	if c, e := value.Compare(nil, tooLong[0]); c != 0 || e != api.ErrShape {
		t.Errorf("the first one's error: %d, %v", c, e)
	}
	if c, e := value.Compare(tooLong[0], nil); c != 0 || e != api.ErrLong {
		t.Errorf("the first one's error: %d, %v", c, e)
	}
}

func TestSort(t *testing.T) {
	turned := slices.Clone(rising)
	slices.Reverse(turned)
	for _, l := range [][]api.Value{rising, turned} {
		s, e := value.Sort(l)
		wantValues(t, "Sort", s, e, rising)
	}
	for _, l := range [][]api.Value{nil, {}, {list()}, {number(1), number(1)}} {
		s, e := value.Sort(l)
		wantValues(t, "of few", s, e, l)
	}
	s, e := value.Sort([]api.Value{list(), text("b"), number(3), text("b"), list(), number(-3), number(3)})
	wantValues(t, "of the same", s, e, []api.Value{number(-3), number(3), number(3), text("b"), text("b"), list(), list()})
}

// Two texts that are the same are told apart by where their bytes lie, and by nothing else.
func TestSortIsStable(t *testing.T) {
	var l []api.Value
	for i := range 200 {
		same := strings.Clone("same")
		l = append(l, text(same), number(i%3), list(text(same)))
	}
	s, e := value.Sort(l)
	if e != api.OK || len(s) != len(l) {
		t.Fatalf("Sort: %d, %v", len(s), e)
	}
	bytes := func(l []api.Value, size int) []*byte {
		var all []*byte
		for _, v := range l {
			if v[0].Kind == api.VText && len(v) == size {
				all = append(all, unsafe.StringData(v[0].Text))
			}
		}
		return all
	}
	for _, size := range []int{1, 2} {
		if !slices.Equal(bytes(l, size), bytes(s, size)) {
			t.Errorf("values of %d atoms that are the same do not stand as they stood", size)
		}
	}
}

func TestSortAtItsLimits(t *testing.T) {
	l := make([]api.Value, api.MaxItems+1)
	want := make([]api.Value, api.MaxItems)
	for i := range want {
		l[i], want[i] = list(number(i*31%api.MaxItems)), list(number(i))
	}
	s, e := value.Sort(l[:api.MaxItems])
	wantValues(t, "as many as may be", s, e, want)
	for _, one := range []api.Value{number(1), nil, tooLong[0]} {
		l[api.MaxItems] = one
		s, e = value.Sort(l)
		wantNoValues(t, "one more", s, e, api.ErrLong)
	}
	s, e = value.Sort(make([]api.Value, api.MaxItems+1))
	wantNoValues(t, "one more, all wrong", s, e, api.ErrLong)
	s, e = value.Sort(make([]api.Value, api.MaxItems))
	wantNoValues(t, "as many as may be, all wrong", s, e, api.ErrShape)
	full := slices.Repeat([]api.Value{broad(api.MaxAtoms)}, api.MaxItems)
	s, e = value.Sort(full)
	wantValues(t, "as many as may be, as long as may be", s, e, full)
}

func TestSortOfWrongOnes(t *testing.T) {
	noValues(func(w api.Value, want api.Errno) {
		for _, l := range [][]api.Value{{w}, {number(1), w}, {w, number(1)}} {
			s, e := value.Sort(l)
			wantNoValues(t, "Sort", s, e, want)
		}
	})
	s, e := value.Sort([]api.Value{list(), nil, tooLong[0]})
	wantNoValues(t, "the first wrong one is told", s, e, api.ErrShape)
	s, e = value.Sort([]api.Value{list(), tooLong[0], nil})
	wantNoValues(t, "the first wrong one is told", s, e, api.ErrLong)
}

// The chapter's examples.

func TestExamples(t *testing.T) {
	wantDone(t, api.XAdd, number(5), number(2), number(3))
	wantUnfit(t, api.XAdd, number(2), text("a"))
	wantUnfit(t, api.XAdd, number(most), number(1))
	wantDone(t, api.XItem, text("a"), list(number(7), text("a")), number(1))
	if c, e := value.Compare(list(number(1)), list(number(1), number(0))); c != -1 || e != api.OK {
		t.Errorf("Compare: %d, %v", c, e)
	}
	if c, e := value.Compare(text("b"), number(7)); c != 1 || e != api.OK {
		t.Errorf("Compare: %d, %v", c, e)
	}
	if s, e := value.Print(list(number(1), text("a"), list())); s != `[1, "a", []]` || e != api.OK {
		t.Errorf("Print: %s, %v", s, e)
	}
	for _, s := range []string{"[1,2]", "-0"} {
		v, e := value.Parse(s)
		wantNoValue(t, s, v, e, api.ErrForm)
	}
}
