package value_test

import (
	"math/big"
	"math/rand"
	"regexp"
	"slices"
	"strings"
	"testing"

	"onceweb/api"
	"onceweb/lex"
	"onceweb/value"
)

// tree is a value with its members hung on it: the chapter again, by recursion instead of places.
type tree struct {
	atom    api.Atom
	members []*tree
}

// grow is the tree whose whole ends at the place at, and how many atoms are left ahead of it; nil, if they are too few.
func grow(v api.Value, at int) (*tree, int) {
	if at < 0 || v[at].N < 0 {
		return nil, 0
	}
	t, left := &tree{atom: v[at]}, at
	for range v[at].N {
		var member *tree
		if member, left = grow(v, left-1); member == nil {
			return nil, 0
		}
		t.members = slices.Insert(t.members, 0, member)
	}
	return t, left
}

// treeOf is the tree of v; nil, if v is not right.
func treeOf(v api.Value) *tree {
	t, left := grow(v, len(v)-1)
	if t == nil || left > 0 || !t.right(api.MaxNest) || len(v) > api.MaxAtoms {
		return nil
	}
	return t
}

// right tells whether t is right, with no more than that depth.
func (t *tree) right(depth int) bool {
	a := t.atom
	ok := depth > 0
	switch a.Kind {
	case api.VInt:
		ok = ok && a == api.Atom{Kind: api.VInt, Int: a.Int} && big.NewInt(int64(a.Int)).CmpAbs(big.NewInt(api.MaxInt)) <= 0
	case api.VText:
		ok = ok && a == api.Atom{Kind: api.VText, Text: a.Text} && len(a.Text) <= api.MaxWord
	case api.VList:
		ok = ok && a == api.Atom{Kind: api.VList, N: a.N}
	default:
		ok = false
	}
	for _, m := range t.members {
		ok = ok && m.right(depth-1)
	}
	return ok
}

// atoms is the tree as a value again.
func (t *tree) atoms() api.Value {
	var v api.Value
	for _, m := range t.members {
		v = append(v, m.atoms()...)
	}
	return append(v, t.atom)
}

func (t *tree) text() string {
	switch t.atom.Kind {
	case api.VInt:
		return big.NewInt(int64(t.atom.Int)).String()
	case api.VText:
		return lex.Quote(t.atom.Text)
	}
	var members []string
	for _, m := range t.members {
		members = append(members, m.text())
	}
	return "[" + strings.Join(members, ", ") + "]"
}

func sign(less, greater bool) int {
	switch {
	case less:
		return -1
	case greater:
		return 1
	}
	return 0
}

func (t *tree) order(u *tree) int {
	if t.atom.Kind != u.atom.Kind {
		return sign(t.atom.Kind < u.atom.Kind, true)
	}
	switch t.atom.Kind {
	case api.VInt:
		return sign(t.atom.Int < u.atom.Int, t.atom.Int > u.atom.Int)
	case api.VText:
		return sign(t.atom.Text < u.atom.Text, t.atom.Text > u.atom.Text)
	}
	for i := range min(len(t.members), len(u.members)) {
		if c := t.members[i].order(u.members[i]); c != 0 {
			return c
		}
	}
	return sign(len(t.members) < len(u.members), len(t.members) > len(u.members))
}

func listTree(members ...*tree) *tree { return &tree{atom: end(len(members)), members: members} }

func intTree(n *big.Int) *tree {
	if !n.IsInt64() {
		return nil
	}
	return &tree{atom: api.Atom{Kind: api.VInt, Int: int(n.Int64())}}
}

func truthTree(holds bool) *tree {
	n := int64(sign(false, holds))
	return intTree(big.NewInt(n))
}

// slowDo is what two values come to by an operation of two, right or not; nil, if it does not fit.
func slowDo(kind int, a, b *tree) *tree {
	fits := func(kinds ...int) bool { return slices.Equal(kinds, []int{a.atom.Kind, b.atom.Kind}) }
	n, m := big.NewInt(int64(a.atom.Int)), big.NewInt(int64(b.atom.Int))
	switch {
	case kind == api.XList:
		return listTree(a, b)
	case kind == api.XAdd && fits(api.VInt, api.VInt):
		return intTree(new(big.Int).Add(n, m))
	case kind == api.XSub && fits(api.VInt, api.VInt):
		return intTree(new(big.Int).Sub(n, m))
	case kind == api.XMul && fits(api.VInt, api.VInt):
		return intTree(new(big.Int).Mul(n, m))
	case kind == api.XJoin && fits(api.VText, api.VText):
		return &tree{atom: api.Atom{Kind: api.VText, Text: a.atom.Text + b.atom.Text}}
	case kind == api.XJoin && fits(api.VList, api.VList):
		return listTree(slices.Concat(a.members, b.members)...)
	case kind == api.XItem && fits(api.VList, api.VInt):
		for i, member := range a.members {
			if b.atom.Int == i {
				return member
			}
		}
	case kind == api.XLess:
		return truthTree(a.order(b) < 0)
	case kind == api.XSame:
		return truthTree(slices.Equal(a.atoms(), b.atoms()))
	}
	return nil
}

var (
	numberForm = regexp.MustCompile(`^(?:0|-?[1-9][0-9]*)`)
	quotedForm = regexp.MustCompile(`^"(?:[ !#-\[\]-~]|\\["\\n]|\\x(?:0[0-9b-f]|1[0-9a-f]|7f|[89a-f][0-9a-f]))*"`)
)

// slowParse is the whole at the front of s, which lies that deep, and what is left of s; by forms of bytes, not by tokens. (Of short texts, which have not too many atoms.)
func slowParse(s string, depth int) (*tree, string, bool) {
	if n := numberForm.FindString(s); n != "" {
		i, _ := new(big.Int).SetString(n, 10)
		t := intTree(i)
		return t, s[len(n):], t != nil && t.right(1) && depth <= api.MaxNest
	}
	if q := quotedForm.FindString(s); q != "" {
		u, ok := lex.Unquote(q)
		return &tree{atom: api.Atom{Kind: api.VText, Text: u}}, s[len(q):], ok && len(u) <= api.MaxWord && depth <= api.MaxNest
	}
	rest, ok := strings.CutPrefix(s, "[")
	if !ok || depth > api.MaxNest {
		return nil, s, false
	}
	if past, ok := strings.CutPrefix(rest, "]"); ok {
		return listTree(), past, true
	}
	var members []*tree
	for {
		var m *tree
		if m, rest, ok = slowParse(rest, depth+1); !ok {
			return nil, s, false
		}
		members = append(members, m)
		if past, ok := strings.CutPrefix(rest, "]"); ok {
			return listTree(members...), past, true
		}
		if rest, ok = strings.CutPrefix(rest, ", "); !ok {
			return nil, s, false
		}
	}
}

// every calls f with each list of at most most of these atoms.
func every(atoms []api.Atom, most int, f func(v api.Value)) {
	var walk func(v api.Value)
	walk = func(v api.Value) {
		f(v)
		if len(v) == most {
			return
		}
		for _, a := range atoms {
			walk(append(slices.Clone(v), a))
		}
	}
	walk(nil)
}

// some are atoms of every kind, right and wrong ones.
var some = []api.Atom{
	number(0)[0], number(1)[0], number(-1)[0], number(most)[0], number(-most)[0], text("")[0], text("a")[0], text("1")[0], end(0), end(1), end(2), end(3),
	{}, {Kind: 4}, end(-1), number(most + 1)[0], number(-most - 1)[0], {Kind: api.VInt, N: 1}, {Kind: api.VText, N: 1}, {Kind: api.VInt, Text: "a"}, {Kind: api.VText, Int: 1}, {Kind: api.VList, N: 1, Int: 1}, {Kind: api.VList, Text: "a"},
}

// few are enough of some to make each shape.
var few = []api.Atom{number(0)[0], number(1)[0], text("")[0], end(0), end(1), end(2), end(3)}

// small are values of few atoms, all of those that there are.
func small(atoms int) []api.Value {
	var all []api.Value
	every(few, atoms, func(v api.Value) {
		if treeOf(v) != nil {
			all = append(all, v)
		}
	})
	return all
}

// grown is a value by chance, at most that deep.
func grown(r *rand.Rand, depth int) api.Value {
	numbers := []int{0, 1, 2, -1, -2, 7, most, -most, most / 2, 94906265, -94906266, 1 << 32, r.Intn(5), r.Intn(most)}
	texts := []string{"", "a", "ab", "b", "\"], [", "\\\n\x00\xff", "1", "é", longText[1:]}
	switch kind := r.Intn(4); {
	case kind == 0:
		return number(numbers[r.Intn(len(numbers))])
	case kind == 1:
		return text(texts[r.Intn(len(texts))])
	case depth == 1:
		return list()
	}
	members := make([]api.Value, r.Intn(5))
	for i := range members {
		members[i] = grown(r, depth-1)
	}
	return list(members...)
}

// chances are values by chance; the seed is fixed, so that each run is the same. Every third one is one ahead of it with a member more.
func chances(count int) []api.Value {
	r := rand.New(rand.NewSource(7))
	all := []api.Value{list()}
	for len(all) < count {
		v := grown(r, 6)
		if w := all[r.Intn(len(all))]; len(all)%3 == 0 && kindOf(w) == api.VList {
			v = slices.Concat(w[:len(w)-1], v, api.Value{end(w[len(w)-1].N + 1)})
		}
		if treeOf(v) != nil {
			all = append(all, v)
		}
	}
	return all
}

// 7.1

func TestCheckOfAllSmallOnes(t *testing.T) {
	right := 0
	look := func(v api.Value) {
		want := api.ErrShape
		if treeOf(v) != nil {
			want = api.OK
			right++
		}
		if e := value.Check(v); e != want {
			t.Errorf("Check(%v): %v, want %v", v, e, want)
		}
	}
	every(some, 4, look)
	every(few, 6, look)
	if right == 0 {
		t.Error("none was right")
	}
}

// 7.2, 7.3 and 7.5

func TestOnesAgainstTrees(t *testing.T) {
	for _, v := range slices.Concat(small(6), chances(2000)) {
		whole := treeOf(v)
		if s, e := value.Print(v); s != whole.text() || e != api.OK {
			t.Errorf("Print(%v): %s, %v; want %s", v, s, e, whole.text())
		}
		if kindOf(v) == api.VInt {
			continue
		}
		size := len(whole.atom.Text) + len(whole.members)
		wantDone(t, api.XSize, number(size), v)
		if kindOf(v) == api.VText {
			continue
		}
		var want []api.Value
		for _, m := range whole.members {
			want = append(want, m.atoms())
		}
		m, e := value.Members(v)
		wantValues(t, "Members", m, e, want)
	}
}

func TestPairsAgainstTrees(t *testing.T) {
	for _, all := range [][]api.Value{small(4), chances(150)} {
		trees := make([]*tree, len(all))
		for i, v := range all {
			trees[i] = treeOf(v)
		}
		for i, a := range all {
			for j, b := range all {
				if c, e := value.Compare(a, b); c != trees[i].order(trees[j]) || e != api.OK {
					t.Fatalf("Compare(%v, %v): %d, %v", a, b, c, e)
				}
				for kind, n := range parts {
					if n == 1 {
						continue
					}
					if want := slowDo(kind, trees[i], trees[j]); want == nil || treeOf(want.atoms()) == nil {
						wantUnfit(t, kind, a, b)
					} else {
						wantDone(t, kind, want.atoms(), a, b)
					}
				}
			}
		}
	}
}

// 7.6

func compare(t *testing.T, a, b api.Value) int {
	t.Helper()
	c, e := value.Compare(a, b)
	if e != api.OK || c < -1 || c > 1 {
		t.Fatalf("Compare(%v, %v): %d, %v", a, b, c, e)
	}
	return c
}

func TestOrderIsTotal(t *testing.T) {
	for _, all := range [][]api.Value{small(3), chances(120)} {
		for _, a := range all {
			for _, b := range all {
				ab := compare(t, a, b)
				if compare(t, b, a) != -ab || (ab == 0) != slices.Equal(a, b) {
					t.Errorf("%v, %v: %d, turned about %d", a, b, ab, compare(t, b, a))
				}
				for _, c := range all {
					if ab <= 0 && compare(t, b, c) <= 0 && compare(t, a, c) > 0 {
						t.Errorf("%v, %v, %v: the order does not go on", a, b, c)
					}
				}
			}
		}
	}
}

// 7.7

// done is what an operation comes to, if it fits.
func done(t *testing.T, kind int, args ...api.Value) (api.Value, bool) {
	t.Helper()
	v, ok, e := value.Do(kind, args)
	if e != api.OK {
		t.Fatalf("Do(%d, %s): %v", kind, brief(args), e)
	}
	return v, ok
}

func TestSumsAndProducts(t *testing.T) {
	var all []api.Value
	for _, n := range []int{0, 1, 2, 3, 7, 1 << 26, 1 << 27, 94906265, 94906266, 1 << 32, most / 3, most / 2, most - 1, most} {
		all = append(all, number(n), number(-n))
	}
	for _, a := range all {
		for _, b := range all {
			for _, kind := range []int{api.XAdd, api.XMul} {
				one, ok := done(t, kind, a, b)
				other, okOther := done(t, kind, b, a)
				if ok != okOther || !slices.Equal(one, other) {
					t.Errorf("%d of %v, %v: %v; turned about %v", kind, a, b, one, other)
				}
			}
			if less, ok := done(t, api.XSub, a, b); ok {
				wantDone(t, api.XAdd, a, less, b)
			}
			if more, ok := done(t, api.XAdd, a, b); ok {
				wantDone(t, api.XSub, a, more, b)
			}
		}
	}
}

// joinables are texts and lists, short ones and such as hardly fit when they are joined.
func joinables() []api.Value {
	l := []api.Value{text(""), text("a"), text("bc"), text(longText[1:]), text(longText[longest/2:]), text(longText), list(), broad(api.MaxAtoms / 2), broad(api.MaxAtoms - 1), broad(api.MaxAtoms)}
	for _, v := range slices.Concat(small(2), chances(60)) {
		if kindOf(v) == api.VList {
			l = append(l, v)
		}
	}
	return l[:min(len(l), 35)]
}

func TestJoinsOfThree(t *testing.T) {
	all := joinables()
	both := 0
	for _, a := range all {
		for _, b := range all {
			ab, okLeft := done(t, api.XJoin, a, b)
			for _, c := range all {
				bc, okRight := done(t, api.XJoin, b, c)
				if !okLeft || !okRight {
					continue
				}
				left, ok := done(t, api.XJoin, ab, c)
				right, okToo := done(t, api.XJoin, a, bc)
				if ok && okToo && !slices.Equal(left, right) {
					t.Errorf("%s, %s, %s: joined %s and %s", brief(a), brief(b), brief(c), brief(left), brief(right))
				}
				if ok && okToo {
					both++
				}
			}
		}
	}
	if both == 0 {
		t.Error("none fitted")
	}
}

func TestSizesAndItemsOfJoins(t *testing.T) {
	all := joinables()
	for _, a := range all {
		for _, b := range all {
			v, ok := done(t, api.XJoin, a, b)
			if !ok {
				continue
			}
			sizeA, _ := done(t, api.XSize, a)
			sizeB, _ := done(t, api.XSize, b)
			sum, _ := done(t, api.XAdd, sizeA, sizeB)
			wantDone(t, api.XSize, sum, v)
			if kindOf(v) == api.VText {
				continue
			}
			of, shift := a, 0
			for i := range sum[0].Int {
				if i == sizeA[0].Int {
					of, shift = b, i
				}
				if i > 5 && i < sum[0].Int-5 {
					continue
				}
				member, ok := done(t, api.XItem, of, number(i-shift))
				if !ok {
					t.Fatalf("no member %d of %s", i-shift, brief(of))
				}
				wantDone(t, api.XItem, member, v, number(i))
			}
			wantUnfit(t, api.XItem, v, sum)
		}
	}
}

// 7.8

func TestParseOfPrint(t *testing.T) {
	parsed := 0
	for _, v := range slices.Concat(small(6), chances(2000), rising, rightAtLimits) {
		s, e := value.Print(v)
		if e != api.OK {
			t.Fatalf("Print(%s): %v", brief(v), e)
		}
		w, e := value.Parse(s)
		if len(s) > api.MaxText {
			wantNoValue(t, "too long", w, e, api.ErrLong)
			continue
		}
		wantValue(t, "Parse of Print", w, e, v)
		parsed++
	}
	if parsed == 0 {
		t.Error("none was parsed")
	}
}

func TestListOfMembers(t *testing.T) {
	for _, v := range slices.Concat(small(6), chances(2000), rising, rightAtLimits) {
		if kindOf(v) != api.VList {
			continue
		}
		m, e := value.Members(v)
		if e != api.OK {
			t.Fatalf("Members(%s): %v", brief(v), e)
		}
		w, e := value.List(m)
		wantValue(t, "List of Members", w, e, v)
		wantDone(t, api.XList, v, m...)
	}
}

func TestSortOfMany(t *testing.T) {
	r := rand.New(rand.NewSource(78))
	all := slices.Concat(small(4), chances(300))
	for count := range 60 {
		l := make([]api.Value, count*3)
		want := make([]string, len(l))
		for i := range l {
			l[i] = all[r.Intn(len(all))]
			want[i] = treeOf(l[i]).text()
		}
		s, e := value.Sort(l)
		if e != api.OK || len(s) != len(l) {
			t.Fatalf("Sort: %d of %d, %v", len(s), len(l), e)
		}
		got := make([]string, len(s))
		for i := range s {
			got[i] = treeOf(s[i]).text()
			if i > 0 && compare(t, s[i-1], s[i]) > 0 {
				t.Errorf("%v stands ahead of %v", s[i-1], s[i])
			}
		}
		slices.Sort(want)
		slices.Sort(got)
		if !slices.Equal(got, want) {
			t.Error("Sort has not what there was")
		}
		again, e := value.Sort(s)
		wantValues(t, "sorted once more", again, e, s)
	}
}

// R3: what is handed in is left as it is, its spare room too, and an answer is new memory.

// roomy is v in a list with room behind it, which is marked.
func roomy(v api.Value) (api.Value, func() bool) {
	room := slices.Concat(v, text("room"), text("room"))
	kept := slices.Clone(room)
	return room[:len(v)], func() bool { return slices.Equal(room, kept) }
}

func TestWhatIsHandedInIsLeft(t *testing.T) {
	for _, given := range []api.Value{number(1), text("a"), list(), list(number(1), list(text("a")), list()), nil, {end(9)}} {
		v, left := roomy(given)
		members := []api.Value{v, v, number(5), nil, nil}
		value.Check(v)
		value.Print(v)
		value.Members(v)
		value.Compare(v, v)
		for kind := range parts {
			value.Do(kind, members[:1])
			value.Do(kind, members[:2])
		}
		for _, n := range []int{0, 1, 2} {
			value.Do(api.XItem, []api.Value{v, number(n)})
		}
		value.List(members[:3])
		value.Sort(members[1:3])
		value.Sort([]api.Value{list(), v, number(0)})
		if !left() || !equalAll(members, []api.Value{given, given, number(5), nil, nil}) {
			t.Errorf("%v was changed", given)
		}
	}
}

// spoil writes over all of v, its spare room too.
func spoil(v api.Value) {
	v = v[:cap(v)]
	for i := range v {
		v[i] = api.Atom{Kind: -1}
	}
}

func TestAnswersAreNew(t *testing.T) {
	v, left := roomy(list(number(1), list(text("a"), list()), text("b")))
	do := func(kind int, args ...api.Value) func() api.Value {
		return func() api.Value {
			w, _, _ := value.Do(kind, args)
			return w
		}
	}
	answers := []func() api.Value{
		func() api.Value { w, _ := value.Int(1); return w },
		func() api.Value { w, _ := value.Text("a"); return w },
		func() api.Value { w, _ := value.List(nil); return w },
		func() api.Value { w, _ := value.List([]api.Value{v, v}); return w },
		func() api.Value { w, _ := value.Parse(`[1, ["a"], []]`); return w },
		do(api.XList), do(api.XList, v), do(api.XAdd, number(1), number(2)), do(api.XSub, number(1), number(2)), do(api.XMul, number(1), number(2)),
		do(api.XJoin, v, v), do(api.XJoin, v, list()), do(api.XJoin, list(), v), do(api.XJoin, text(""), text("a")),
		do(api.XItem, v, number(0)), do(api.XItem, v, number(1)), do(api.XItem, v, number(2)), do(api.XSize, v), do(api.XLess, v, v), do(api.XSame, v, v),
	}
	for i, answer := range answers {
		one := answer()
		kept := slices.Clone(one)
		spoil(answer())
		if len(one) == 0 || !slices.Equal(one, kept) || !left() {
			t.Errorf("answer %d shares memory", i)
		}
		wantValue(t, "the same again", answer(), api.OK, kept)
	}
}

func TestListsOfOneAnswerShareNothing(t *testing.T) {
	v, left := roomy(list(number(1), list(text("a"), list()), text("b"), list()))
	for what, answer := range map[string]func() ([]api.Value, api.Errno){
		"Members": func() ([]api.Value, api.Errno) { return value.Members(v) },
		"Sort":    func() ([]api.Value, api.Errno) { return value.Sort([]api.Value{v, v, number(1), v}) },
		"none":    func() ([]api.Value, api.Errno) { return value.Members(list()) },
	} {
		want, e := answer()
		for i := range want {
			l, _ := answer()
			spoil(l[i])
			for j := range l {
				if j != i {
					wantValue(t, what, l[j], e, want[j])
				}
			}
			_ = append(want[i], number(9)...)
			if !left() {
				t.Errorf("%s shares memory with what was handed in", what)
			}
		}
		clear(want[:cap(want)])
		again, e := answer()
		if e != api.OK || len(again) != len(want) || slices.ContainsFunc(again, func(w api.Value) bool { return value.Check(w) != api.OK }) {
			t.Errorf("%s again: %v, %v", what, again, e)
		}
	}
}
