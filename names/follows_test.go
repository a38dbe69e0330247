package names_test

import (
	"cmp"
	"math/rand"
	"slices"
	"strings"
	"testing"

	"onceweb/api"
	"onceweb/names"
)

// tree is an expression with its parts hung on it: the chapter again, from the whole down and by recursion.
type tree struct {
	op    api.Op
	at    int
	parts []*tree
}

// grow is the tree whose whole ends at the place at, and how many operations are left ahead of it; nil, if they are too few.
func grow(e api.Expr, at int) (*tree, int) {
	if at < 0 || e[at].N < 0 {
		return nil, 0
	}
	t, left := &tree{op: e[at], at: at}, at
	for range e[at].N {
		var part *tree
		if part, left = grow(e, left-1); part == nil {
			return nil, 0
		}
		t.parts = slices.Insert(t.parts, 0, part)
	}
	return t, left
}

// treeOf is the tree of e; nil, if e (of at most MaxOps operations, not too deep, without too long texts) is not right.
func treeOf(e api.Expr) *tree {
	t, left := grow(e, len(e)-1)
	if t == nil || left > 0 || !t.right(nil) {
		return nil
	}
	return t
}

// right tells whether all operations may be, where those locals are bound. The texts of these tests that are names have one small letter.
func (t *tree) right(locals []string) bool {
	n, number, s := len(t.parts), t.op.Int, t.op.Text
	isName := len(s) == 1 && s >= "a" && s <= "z"
	ok := false
	switch t.op.Kind {
	case api.XInt:
		ok = n == 0 && s == "" && number <= api.MaxInt && number >= -api.MaxInt
	case api.XText:
		ok = n == 0 && number == 0
	case api.XName:
		ok = n == 0 && number == 0 && isName
	case api.XLocal:
		ok = n == 0 && number == 0 && isName && slices.Contains(locals, s)
	case api.XList:
		ok = number == 0 && s == ""
	case api.XSize, api.XFail, api.XPanic:
		ok = n == 1 && number == 0 && s == ""
	case api.XGate:
		ok = n == 1 && number == 0 && isName
	case api.XAdd, api.XSub, api.XMul, api.XJoin, api.XItem, api.XLess, api.XSame, api.XTry:
		ok = n == 2 && number == 0 && s == ""
	case api.XIf:
		ok = n == 3 && number == 0 && s == ""
	case api.XLet:
		return n == 2 && number == 0 && isName && t.parts[0].right(locals) && t.parts[1].right(append(slices.Clone(locals), s))
	}
	for _, p := range t.parts {
		ok = ok && p.right(locals)
	}
	return ok
}

// walk hands each whole to look, behind its parts.
func (t *tree) walk(look func(t *tree)) {
	for _, p := range t.parts {
		p.walk(look)
	}
	look(t)
}

// texts is the texts of a kind, each once.
func (t *tree) texts(kind int) []string {
	var l []string
	t.walk(func(t *tree) {
		if t.op.Kind == kind && !slices.Contains(l, t.op.Text) {
			l = append(l, t.op.Text)
		}
	})
	return l
}

// runs is what is asked for in each way in which the whole can be gone through if nothing fails: by one of the parts of each XIf that follow its first one. Each way is a text of names of one letter.
func (t *tree) runs() []string {
	both := func(one, other []string) []string {
		var l []string
		for _, a := range one {
			for _, b := range other {
				l = append(l, a+b)
			}
		}
		return l
	}
	switch t.op.Kind {
	case api.XName:
		return []string{t.op.Text}
	case api.XIf:
		return both(t.parts[0].runs(), append(t.parts[1].runs(), t.parts[2].runs()...))
	case api.XTry:
		return t.parts[0].runs()
	}
	l := []string{""}
	for _, p := range t.parts {
		l = both(l, p.runs())
	}
	return l
}

// sure is the names that each run asks for.
func (t *tree) sure() []string {
	var l []string
	runs := t.runs()
	for _, name := range t.texts(api.XName) {
		if !slices.ContainsFunc(runs, func(run string) bool { return !strings.Contains(run, name) }) {
			l = append(l, name)
		}
	}
	return l
}

// some are operations of every kind, right and wrong ones.
var some = append(ops("1 'x a b $x $y list:0 list:1 list:2 list:3 + item size if try fail gate:g let:x let:y"),
	api.Op{}, api.Op{Kind: api.XList, N: -1}, api.Op{Kind: api.XName}, api.Op{Kind: api.XName, Text: "A"}, api.Op{Kind: api.XAdd, N: 1}, api.Op{Kind: api.XSize, N: 1, Text: "a"},
	api.Op{Kind: api.XInt, Int: api.MaxInt + 1}, api.Op{Kind: api.XLet + 1, N: 1}, api.Op{Kind: api.XIf, N: 2}, api.Op{Kind: api.XGate, N: 1}, api.Op{Kind: api.XText, Int: 1},
)

// few are enough of some to make each shape, and each binding.
var (
	few     = ops("a b 1 if try list:2 gate:g")
	binding = ops("$x $y let:x let:y +")
)

// every calls f with each list of at most most of these operations.
func every(l api.Expr, most int, f func(e api.Expr)) {
	var walk func(e api.Expr)
	walk = func(e api.Expr) {
		f(e)
		if len(e) == most {
			return
		}
		for _, o := range l {
			walk(append(slices.Clone(e), o))
		}
	}
	walk(nil)
}

// grown is an expression by chance, where those locals are bound; its depth is at most deep + 1.
func grown(r *rand.Rand, deep int, locals []string) api.Expr {
	if deep == 0 || r.Intn(5) == 0 {
		leaves := ops("1 'x a b c d e a b c d e list:0")
		for _, local := range locals {
			leaves = append(leaves, api.Op{Kind: api.XLocal, Text: local})
		}
		return api.Expr{leaves[r.Intn(len(leaves))]}
	}
	whole := ops("if if if try try + item == size fail gate:g gate:h list:1 list:4 let:x let:y")[r.Intn(16)]
	var e api.Expr
	for i := range whole.N {
		if whole.Kind == api.XLet && i == 1 {
			locals = append(slices.Clone(locals), whole.Text)
		}
		e = append(e, grown(r, deep-1, locals)...)
	}
	return append(e, whole)
}

// chances calls f with expressions by chance that have few enough runs to go through; the seed is fixed, so that each run is the same.
func chances(f func(r *rand.Rand, e api.Expr)) {
	r := rand.New(rand.NewSource(5))
	for range 8000 {
		e := grown(r, 1+r.Intn(5), nil)
		ifs := 0
		for _, o := range e {
			if o.Kind == api.XIf {
				ifs++
			}
		}
		if len(e) <= api.MaxOps && ifs <= 8 {
			f(r, e)
		}
	}
}

// eachRight calls f with right expressions: all small ones, and many by chance.
func eachRight(f func(e api.Expr)) {
	look := func(e api.Expr) {
		if treeOf(e) != nil {
			f(e)
		}
	}
	every(some, 3, look)
	every(few, 5, look)
	every(append(ops("1"), binding...), 5, look)
	chances(func(_ *rand.Rand, e api.Expr) { f(e) })
}

// 5.1

func TestCheckOfAllSmallOnes(t *testing.T) {
	right := 0
	look := func(e api.Expr) {
		want := api.ErrShape
		if treeOf(e) != nil {
			want = api.OK
			right++
		}
		if code := names.Check(e); code != want {
			t.Fatalf("Check(%v): %v, want %v", e, code, want)
		}
	}
	every(some, 3, look)
	every(few, 6, look)
	every(append(ops("1"), binding...), 7, look)
	if right == 0 {
		t.Error("none was right")
	}
}

// 5.1 and 5.2

func TestLooksAgainstTrees(t *testing.T) {
	eachRight(func(e api.Expr) {
		whole := treeOf(e)
		if whole == nil {
			t.Fatalf("the test's own expression is off: %v", e)
		}
		whole.walk(func(part *tree) {
			var want []int
			for _, p := range part.parts {
				want = append(want, p.at)
			}
			if l, code := names.Parts(e, part.at); code != api.OK || !slices.Equal(l, want) {
				t.Fatalf("Parts(%v, %d): %v, %v; want %v", e, part.at, l, code, want)
			}
		})
		if l, code := names.Asked(e); code != api.OK || !slices.Equal(l, whole.texts(api.XName)) {
			t.Fatalf("Asked(%v): %v, %v", e, l, code)
		}
		if l, code := names.Gates(e); code != api.OK || !slices.Equal(l, whole.texts(api.XGate)) {
			t.Fatalf("Gates(%v): %v, %v", e, l, code)
		}
		if l, code := names.Sure(e); code != api.OK || !slices.Equal(l, whole.sure()) {
			t.Fatalf("Sure(%v): %v, %v; want %v", e, l, code, whole.sure())
		}
	})
}

// 5.4

func TestSureIsAmongAsked(t *testing.T) {
	eachRight(func(e api.Expr) {
		asked, _ := names.Asked(e)
		sure, _ := names.Sure(e)
		rest := asked
		for _, name := range sure {
			at := slices.Index(rest, name)
			if at < 0 {
				t.Fatalf("%v: %v is not among %v, in its order", e, sure, asked)
			}
			rest = rest[at+1:]
		}
	})
}

func TestRenameAndBack(t *testing.T) {
	eachRight(func(e api.Expr) {
		asked, _ := names.Asked(e)
		for _, from := range []string{"a", "b", "q"} {
			there, code := names.Rename(e, from, "new")
			back, backCode := names.Rename(there, "new", from)
			if code != api.OK || backCode != api.OK || !slices.Equal(back, e) {
				t.Fatalf("%v renamed and back: %v, %v; %v, %v", e, there, code, back, backCode)
			}
			want := slices.Clone(asked)
			for i := range want {
				if want[i] == from {
					want[i] = "new"
				}
			}
			if l, code := names.Asked(there); code != api.OK || !slices.Equal(l, want) {
				t.Fatalf("%v renamed asks for %v, %v; want %v", e, l, code, want)
			}
		}
	})
}

// 5.3, 5.5 and 5.6

// anySet is a set by chance, of providers p to w and names from z backwards that have none; few leads to chains, many to rounds.
func anySet(r *rand.Rand) []api.Provider {
	n, arrows := r.Intn(9), r.Intn(4)
	all := strings.Fields("p q r s t u v w z y x")
	own := all[:n]
	var l []api.Provider
	for i, name := range own {
		e := ops("1")
		for range r.Intn(arrows + 1) {
			to := all[r.Intn(len(all))]
			// Sets without rounds are to be among them.
			if arrows == 1 || slices.Contains(own, to) && r.Intn(3) > 0 {
				to = all[min(i+1+r.Intn(3), len(all)-1)]
			}
			e = append(e, op(to), op([]string{"+", "try", "item"}[r.Intn(3)]))
		}
		l = append(l, api.Provider{Name: name, Expr: e})
	}
	r.Shuffle(len(l), func(i, j int) { l[i], l[j] = l[j], l[i] })
	return l
}

func eachSet(f func(r *rand.Rand, l []api.Provider)) {
	r := rand.New(rand.NewSource(55))
	for range 5000 {
		f(r, anySet(r))
	}
}

// arrows is who asks for whom.
func arrows(l []api.Provider) map[[2]string]bool {
	m := map[[2]string]bool{}
	for _, p := range l {
		for _, o := range p.Expr {
			if o.Kind == api.XName {
				m[[2]string{p.Name, o.Text}] = true
			}
		}
	}
	return m
}

// leads is who leads to whom: arrows, put behind each other till there is none more (Warshall's way).
func leads(l []api.Provider) map[[2]string]bool {
	m := arrows(l)
	all := strings.Fields("p q r s t u v w z y x")
	for _, by := range all {
		for _, from := range all {
			for _, to := range all {
				if m[[2]string{from, by}] && m[[2]string{by, to}] {
					m[[2]string{from, to}] = true
				}
			}
		}
	}
	return m
}

// chain is the longest chain from a name on, by going every way; -1, if one is longer than a set could have without a round.
func chain(l []api.Provider, name string, left int) int {
	at := slices.IndexFunc(l, func(p api.Provider) bool { return p.Name == name })
	if at < 0 {
		return 0
	}
	if left == 0 {
		return -1
	}
	most := 0
	for _, o := range l[at].Expr {
		if o.Kind != api.XName {
			continue
		}
		n := chain(l, o.Text, left-1)
		if n < 0 {
			return -1
		}
		most = max(most, n)
	}
	return most + 1
}

func TestSetsAgainstArrows(t *testing.T) {
	endless, finite, lacking := 0, 0, 0
	eachSet(func(_ *rand.Rand, l []api.Provider) {
		m := leads(l)
		var cyclic, missing []string
		for _, p := range l {
			if m[[2]string{p.Name, p.Name}] {
				cyclic = append(cyclic, p.Name)
			}
			for _, o := range p.Expr {
				is := func(q api.Provider) bool { return q.Name == o.Text }
				if o.Kind == api.XName && !slices.ContainsFunc(l, is) && !slices.Contains(missing, o.Text) {
					missing = append(missing, o.Text)
				}
			}
			var closure []string
			for _, to := range strings.Fields("p q r s t u v w x y z") {
				if m[[2]string{p.Name, to}] {
					closure = append(closure, to)
				}
			}
			if found, fault := names.Closure(l, p.Name); fault != (api.Fault{}) || !slices.Equal(found, closure) {
				t.Fatalf("%v: Closure of %s: %v, %v; want %v", l, p.Name, found, fault, closure)
			}
			want := chain(l, p.Name, len(l))
			if n, fault := names.Longest(l, p.Name); n != want || fault != (api.Fault{}) {
				t.Fatalf("%v: Longest of %s: %v, %v; want %v", l, p.Name, n, fault, want)
			}
			if want < 0 {
				endless++
			} else if want > 2 {
				finite++
			}
		}
		slices.Sort(cyclic)
		lacking += len(missing)
		if found, fault := names.Cyclic(l); fault != (api.Fault{}) || !slices.Equal(found, cyclic) {
			t.Fatalf("%v: Cyclic: %v, %v; want %v", l, found, fault, cyclic)
		}
		if found, fault := names.Missing(l); fault != (api.Fault{}) || !slices.Equal(found, missing) {
			t.Fatalf("%v: Missing: %v, %v; want %v", l, found, fault, missing)
		}
	})
	if endless == 0 || finite == 0 || lacking == 0 {
		t.Fatalf("the sets are all alike: %d, %d, %d", endless, finite, lacking)
	}
}

func TestClosuresClose(t *testing.T) {
	eachSet(func(_ *rand.Rand, l []api.Provider) {
		m := arrows(l)
		cyclic, _ := names.Cyclic(l)
		for _, p := range l {
			closure, _ := names.Closure(l, p.Name)
			for arrow := range m {
				if (arrow[0] == p.Name || slices.Contains(closure, arrow[0])) && !slices.Contains(closure, arrow[1]) {
					t.Fatalf("%v: the closure of %s lacks %s, which %s asks for", l, p.Name, arrow[1], arrow[0])
				}
			}
			if slices.Contains(cyclic, p.Name) != slices.Contains(closure, p.Name) {
				t.Fatalf("%v: %s is in its own closure, or is cyclic, but not both", l, p.Name)
			}
			wantOneMore(t, l, p, len(cyclic) > 0)
		}
	})
}

// wantOneMore asks of Longest, where there are no rounds, that it is one more than the greatest of what is asked for.
func wantOneMore(t *testing.T, l []api.Provider, p api.Provider, rounds bool) {
	t.Helper()
	if rounds {
		return
	}
	most := 0
	asked, _ := names.Asked(p.Expr)
	for _, name := range asked {
		if n, fault := names.Longest(l, name); fault.Code == api.OK {
			most = max(most, n)
		}
	}
	if n, _ := names.Longest(l, p.Name); n != most+1 || n > len(l) {
		t.Fatalf("%v: Longest of %s is %d, of what it asks for %d", l, p.Name, n, most)
	}
}

func TestOrderChangesNothing(t *testing.T) {
	eachSet(func(r *rand.Rand, l []api.Provider) {
		sorted := slices.SortedFunc(slices.Values(l), func(a, b api.Provider) int { return cmp.Compare(a.Name, b.Name) })
		turned := slices.Clone(sorted)
		slices.Reverse(turned)
		for _, other := range [][]api.Provider{sorted, turned} {
			one, _ := names.Cyclic(l)
			two, fault := names.Cyclic(other)
			if fault != (api.Fault{}) || !slices.Equal(one, two) {
				t.Fatalf("%v: Cyclic: %v; in another order %v, %v", l, one, two, fault)
			}
			for _, p := range l {
				one, _ := names.Closure(l, p.Name)
				two, fault := names.Closure(other, p.Name)
				if fault != (api.Fault{}) || !slices.Equal(one, two) {
					t.Fatalf("%v: Closure of %s: %v; in another order %v, %v", l, p.Name, one, two, fault)
				}
				n, _ := names.Longest(l, p.Name)
				k, fault := names.Longest(other, p.Name)
				if fault != (api.Fault{}) || n != k {
					t.Fatalf("%v: Longest of %s: %v; in another order %v, %v", l, p.Name, n, k, fault)
				}
			}
		}
	})
}

// R3: what is handed in is left as it is, spare room too, and answers are new memory.

// roomy is e with spare room behind it that holds something.
func roomy(e api.Expr) (api.Expr, api.Expr) {
	whole := append(slices.Clone(e), ops("a 1 $x let:x")...)
	return whole[:len(e)], whole
}

func TestArgumentsAreLeft(t *testing.T) {
	eachRight(func(e api.Expr) {
		given, room := roomy(e)
		kept := slices.Clone(room)
		names.Check(given)
		names.Parts(given, len(given)-1)
		names.Asked(given)
		names.Sure(given)
		names.Gates(given)
		renamed, _ := names.Rename(given, "a", "b")
		for i := range renamed[:cap(renamed)] {
			renamed[:cap(renamed)][i] = api.Op{}
		}
		if !slices.Equal(room, kept) {
			t.Fatalf("%v was changed: %v", kept, room)
		}
	})
	eachSet(func(_ *rand.Rand, l []api.Provider) {
		whole := append(slices.Clone(l), plain("k"))
		given := whole[:len(l)]
		names.CheckSet(given)
		names.Missing(given)
		names.Cyclic(given)
		names.Closure(given, "p")
		names.Longest(given, "p")
		for i, p := range append(slices.Clone(l), plain("k")) {
			if whole[i].Name != p.Name || !slices.Equal(whole[i].Expr, p.Expr) {
				t.Fatalf("%v was changed: %v", l, whole)
			}
		}
	})
}

// scratch spoils all of a list of names, spare room too.
func scratch(l []string) {
	for i := range l[:cap(l)] {
		l[:cap(l)][i] = "spoilt"
	}
}

func TestAnswersAreNew(t *testing.T) {
	e := ops("b a c if b gate:h + gate:g")
	l := lines("b a z", "a b y")
	for _, call := range []func() []string{
		func() []string { l, _ := names.Asked(e); return l },
		func() []string { l, _ := names.Sure(e); return l },
		func() []string { l, _ := names.Gates(e); return l },
		func() []string { l, _ := names.Missing(l); return l },
		func() []string { l, _ := names.Closure(l, "a"); return l },
		func() []string { l, _ := names.Cyclic(l); return l },
	} {
		one, two := call(), call()
		kept := slices.Clone(two)
		scratch(one)
		if len(kept) == 0 || !slices.Equal(two, kept) || !slices.Equal(call(), kept) {
			t.Fatalf("an answer shares memory: %v, %v", kept, two)
		}
	}
	one, _ := names.Parts(e, len(e)-1)
	two, _ := names.Parts(e, len(e)-1)
	one[0] = 99
	if !slices.Equal(two, []int{len(e) - 2}) {
		t.Fatalf("an answer shares memory: %v", two)
	}
}

// R6: no answer hangs on a map's order.

func TestAnswersAreTheSameEachTime(t *testing.T) {
	l := dense(func(from, to int) bool { return to == (from*5+1)%api.MaxCells || to%37 == from%31 })
	cyclic, _ := names.Cyclic(l)
	closure, _ := names.Closure(l, "p7")
	e := ops("1 c b a d e list:5 e d x a b c list:6 if")
	for range 20 {
		again, _ := names.Cyclic(l)
		closes, _ := names.Closure(l, "p7")
		sure, _ := names.Sure(e)
		if !slices.Equal(again, cyclic) || !slices.Equal(closes, closure) || strings.Join(sure, " ") != "c b a d e" {
			t.Fatalf("another answer: %v, %v, %v", again, closes, sure)
		}
	}
}

// P1: no arguments make a call panic or go on for ever.

func TestAnyArguments(t *testing.T) {
	r := rand.New(rand.NewSource(15))
	numbers := []int{-1 << 63, -api.MaxInt - 1, -2, -1, 0, 0, 0, 1, 1, 2, 2, 3, 4, 200, api.MaxInt, 1<<63 - 1}
	texts := []string{"", "", "", "a", "b", "x", "cell", "A", longName, longName + "a", longText, longText + "a"}
	anyOp := func() api.Op {
		if r.Intn(3) > 0 {
			return some[r.Intn(len(some))]
		}
		return api.Op{Kind: r.Intn(22) - 1, N: numbers[r.Intn(len(numbers))], Int: numbers[r.Intn(len(numbers))], Text: texts[r.Intn(len(texts))]}
	}
	for range 20000 {
		var e api.Expr
		for range r.Intn(8) {
			e = append(e, anyOp())
		}
		code := names.Check(e)
		at, from, to := numbers[r.Intn(len(numbers))], texts[r.Intn(len(texts))], texts[r.Intn(len(texts))]
		_, of := names.Parts(e, at)
		_, asked := names.Asked(e)
		_, sure := names.Sure(e)
		_, gates := names.Gates(e)
		_, renamed := names.Rename(e, from, to)
		if asked != code || sure != code || gates != code || code != api.OK && (of != code || renamed != code) {
			t.Fatalf("%v: %v; %v, %v, %v, %v, %v", e, code, of, asked, sure, gates, renamed)
		}
		p := api.Provider{Name: from, Expr: e, Policy: api.Policy{Tries: at, Base: r.Intn(3) - 1, Factor: r.Intn(3) - 1, Cap: numbers[r.Intn(len(numbers))]}, Closer: api.Closer{Kind: r.Intn(6) - 1, Text: to}}
		l := []api.Provider{plain("b"), p, {Name: to, Expr: e}}
		fault := names.CheckSet(l)
		_, missing := names.Missing(l)
		_, cyclic := names.Cyclic(l)
		_, closure := names.Closure(l, "b")
		_, longest := names.Longest(l, "b")
		if missing != fault || cyclic != fault || closure != fault || longest != fault || (fault.At == 1 && fault.Code != api.ErrTwice) != (names.CheckProvider(p) != api.OK) {
			t.Fatalf("%v: %v; %v, %v, %v, %v", l, fault, missing, cyclic, closure, longest)
		}
	}
}
