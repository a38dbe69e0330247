package eval_test

import (
	"math/big"
	"math/rand"
	"slices"
	"strings"
	"testing"

	"onceweb/api"
	"onceweb/eval"
	"onceweb/names"
)

// tree is an expression with its parts hung on it.
type tree struct {
	op    api.Op
	parts []*tree
}

// treeOf is the tree of x, which is right.
func treeOf(x api.Expr) *tree {
	t, _ := grow(x)
	return t
}

// grow is the tree of the whole at x's end, and what is left ahead of it.
func grow(x api.Expr) (*tree, api.Expr) {
	t, left := &tree{op: x[len(x)-1]}, x[:len(x)-1]
	for range t.op.N {
		var part *tree
		part, left = grow(left)
		t.parts = append(t.parts, part)
	}
	slices.Reverse(t.parts)
	return t, left
}

// ops is the tree as an expression again.
func (t *tree) ops() api.Expr {
	var x api.Expr
	for _, p := range t.parts {
		x = append(x, p.ops()...)
	}
	return append(x, t.op)
}

// Values in these tests' own form: *big.Int, string, []any.

// plain is v, which is right, in that form.
func plain(v api.Value) any {
	all := []any{}
	for _, a := range v {
		switch a.Kind {
		case api.VInt:
			all = append(all, big.NewInt(int64(a.Int)))
		case api.VText:
			all = append(all, a.Text)
		case api.VList:
			cut := len(all) - a.N
			all = append(all[:cut:cut], any(slices.Clone(all[cut:])))
		}
	}
	return all[0]
}

// atoms is v as a value again.
func atoms(v any) api.Value {
	switch v := v.(type) {
	case *big.Int:
		return api.Value{{Kind: api.VInt, Int: int(v.Int64())}}
	case string:
		return api.Value{{Kind: api.VText, Text: v}}
	}
	var l api.Value
	for _, member := range v.([]any) {
		l = append(l, atoms(member)...)
	}
	return append(l, api.Atom{Kind: api.VList, N: len(v.([]any))})
}

// measure is how many atoms v has, and how deep it is.
func measure(v any) (size, depth int) {
	l, _ := v.([]any)
	for _, member := range l {
		s, d := measure(member)
		size, depth = size+s, max(depth, d)
	}
	return size + 1, depth + 1
}

// fits tells whether v may be a value.
func fits(v any) bool {
	switch v := v.(type) {
	case nil:
		return false
	case *big.Int:
		return v.CmpAbs(big.NewInt(api.MaxInt)) <= 0
	case string:
		return len(v) <= api.MaxWord
	}
	size, depth := measure(v)
	return size <= api.MaxAtoms && depth <= api.MaxNest
}

// rank is where values of v's kind stand among the others.
func rank(v any) int {
	switch v.(type) {
	case *big.Int:
		return 1
	case string:
		return 2
	}
	return 3
}

func compare(a, b any) int {
	if rank(a) != rank(b) {
		return rank(a) - rank(b)
	}
	switch a := a.(type) {
	case *big.Int:
		return a.Cmp(b.(*big.Int))
	case string:
		return strings.Compare(a, b.(string))
	}
	return slices.CompareFunc(a.([]any), b.([]any), compare)
}

func truth(holds bool) any {
	if holds {
		return big.NewInt(1)
	}
	return new(big.Int)
}

// slowDo is what an operation makes of its arguments, whether it may be a value or not; nil, if it does not fit them.
func slowDo(kind int, args []any) any {
	var n, m *big.Int
	if len(args) == 2 {
		n, _ = args[0].(*big.Int)
		m, _ = args[1].(*big.Int)
	}
	numbers := n != nil && m != nil
	switch {
	case kind == api.XList:
		return args
	case kind == api.XAdd && numbers:
		return new(big.Int).Add(n, m)
	case kind == api.XSub && numbers:
		return new(big.Int).Sub(n, m)
	case kind == api.XMul && numbers:
		return new(big.Int).Mul(n, m)
	case kind == api.XLess:
		return truth(compare(args[0], args[1]) < 0)
	case kind == api.XSame:
		return truth(compare(args[0], args[1]) == 0)
	}
	return slowDoOfOne(kind, args, m)
}

// slowDoOfOne is the rest of slowDo: what is told by the first argument's kind.
func slowDoOfOne(kind int, args []any, place *big.Int) any {
	switch a := args[0].(type) {
	case string:
		if kind == api.XSize {
			return big.NewInt(int64(len(a)))
		}
		if b, ok := args[len(args)-1].(string); ok && kind == api.XJoin {
			return a + b
		}
	case []any:
		if kind == api.XSize {
			return big.NewInt(int64(len(a)))
		}
		if b, ok := args[len(args)-1].([]any); ok && kind == api.XJoin {
			return slices.Concat(a, b)
		}
		if kind == api.XItem && place != nil && place.Sign() >= 0 && place.Cmp(big.NewInt(int64(len(a)))) < 0 {
			return a[place.Int64()]
		}
	}
	return nil
}

// slow is the chapter again: from the whole down, with locals in a map that is copied for each XLet, and with all that is no value thrown.
type slow struct {
	known []api.Known
	open  []string
	asked []string
}

// thrown is that something came to no value.
type thrown struct {
	out  api.Outcome
	gate string
}

func crack(kind int, text string) api.Fail { return api.Fail{{Kind: kind, Text: text}} }

func throwFail(kind int, text string) {
	panic(thrown{out: api.Outcome{Kind: api.OFail, Fail: crack(kind, text)}})
}

// caught is what look comes to, or what it throws.
func caught(look func() any) (v any, out thrown, ok bool) {
	defer func() {
		if r := recover(); r != nil {
			out = r.(thrown)
		}
	}()
	return look(), thrown{}, true
}

func (s *slow) mean(t *tree) api.Meaning {
	v, out, ok := caught(func() any { return s.look(t, nil) })
	if ok {
		out.out = valued(atoms(v))
	}
	return api.Meaning{Outcome: out.out, Gate: out.gate, Asked: s.asked}
}

func (s *slow) look(t *tree, locals map[string]any) any {
	part := func(i int) any { return s.look(t.parts[i], locals) }
	switch t.op.Kind {
	case api.XInt:
		return big.NewInt(int64(t.op.Int))
	case api.XText:
		return t.op.Text
	case api.XLocal:
		return locals[t.op.Text]
	case api.XName:
		return s.ask(t.op.Text)
	case api.XIf:
		n, ok := part(0).(*big.Int)
		if !ok {
			throwFail(api.FValue, "if")
		}
		return part(2 - n.Sign()*n.Sign())
	case api.XTry:
		v, out, ok := caught(func() any { return part(0) })
		if !ok && out.out.Kind != api.OFail {
			panic(out)
		}
		if !ok {
			v = part(1)
		}
		return v
	case api.XGate:
		if !slices.Contains(s.open, t.op.Text) {
			panic(thrown{gate: t.op.Text})
		}
		return part(0)
	case api.XLet:
		inside := map[string]any{t.op.Text: part(0)}
		for name, v := range locals {
			if name != t.op.Text {
				inside[name] = v
			}
		}
		return s.look(t.parts[1], inside)
	}
	return s.work(t, part)
}

func (s *slow) ask(name string) any {
	s.asked = append(s.asked, name)
	for _, k := range s.known {
		if k.Name == name && k.Outcome.Kind == api.OValue {
			return plain(k.Outcome.Value)
		}
		if k.Name == name {
			panic(thrown{out: k.Outcome})
		}
	}
	throwFail(api.FNone, name)
	return nil
}

var words = map[int]string{api.XList: "list", api.XAdd: "add", api.XSub: "sub", api.XMul: "mul", api.XJoin: "join", api.XItem: "item", api.XSize: "size", api.XFail: "fail", api.XPanic: "panic"}

// work is an operation that wants all its parts' values.
func (s *slow) work(t *tree, part func(i int) any) any {
	args := []any{}
	for i := range t.parts {
		args = append(args, part(i))
	}
	kind := t.op.Kind
	if kind == api.XFail || kind == api.XPanic {
		text, ok := args[0].(string)
		switch {
		case !ok:
			throwFail(api.FValue, words[kind])
		case kind == api.XFail:
			throwFail(api.FRaise, text)
		}
		panic(thrown{out: api.Outcome{Kind: api.OPanic, Fail: crack(api.FPanic, text)}})
	}
	v := slowDo(kind, args)
	if !fits(v) {
		throwFail(api.FValue, words[kind])
	}
	return v
}

// literal tells whether t is one.
func (t *tree) literal() bool {
	for _, o := range t.ops() {
		if o.Kind != api.XInt && o.Kind != api.XText && o.Kind != api.XList {
			return false
		}
	}
	return true
}

// literalTree is the literal of v, in these tests' own form.
func literalTree(v any) *tree {
	switch v := v.(type) {
	case *big.Int:
		return &tree{op: api.Op{Kind: api.XInt, Int: int(v.Int64())}}
	case string:
		return &tree{op: api.Op{Kind: api.XText, Text: v}}
	}
	t := &tree{op: api.Op{Kind: api.XList, N: len(v.([]any))}}
	for _, member := range v.([]any) {
		t.parts = append(t.parts, literalTree(member))
	}
	return t
}

// locals calls f with each local beneath t and the XLet that it is of; around has those around t, the nearest one last.
func (t *tree) locals(around []*tree, f func(local, let *tree)) {
	if t.op.Kind == api.XLocal {
		for _, let := range slices.Backward(around) {
			if let.op.Text == t.op.Text {
				f(t, let)
				return
			}
		}
	}
	for i, p := range t.parts {
		if t.op.Kind == api.XLet && i == 1 {
			around = append(slices.Clone(around), t)
		}
		p.locals(around, f)
	}
}

// own is the locals of t, which is an XLet.
func (t *tree) own() []*tree {
	var l []*tree
	t.locals(nil, func(local, let *tree) {
		if let == t {
			l = append(l, local)
		}
	})
	return l
}

// fold is the tree folded, by the rules in their order.
func (t *tree) fold() *tree {
	f := &tree{op: t.op}
	literals := true
	for _, p := range t.parts {
		f.parts = append(f.parts, p.fold())
		literals = literals && f.parts[len(f.parts)-1].literal()
	}
	kind := t.op.Kind
	switch {
	case kind >= api.XList && kind <= api.XSame && literals:
		v, _, ok := caught(func() any { return new(slow).look(f, nil) })
		if ok && len(literalTree(v).ops()) <= len(f.ops()) {
			return literalTree(v)
		}
	case kind == api.XIf && f.parts[0].op.Kind == api.XInt && f.parts[0].op.Int == 0:
		return f.parts[2]
	case kind == api.XIf && f.parts[0].op.Kind == api.XInt:
		return f.parts[1]
	case kind == api.XTry && f.parts[0].literal():
		return f.parts[0]
	case kind == api.XLet && f.parts[0].literal() && len(f.own()) == 0:
		return f.parts[1]
	}
	return f
}

// Expressions: all small ones, and many by chance.

// leaves, and what is put around parts, so that there is each kind at least once.
var (
	leaves = slices.Concat(read("[0, 1, -2, \"\", \"ab\"]")[:5], api.Expr{{Kind: api.XName, Text: "a"}, {Kind: api.XName, Text: "b"}, {Kind: api.XName, Text: "c"}, {Kind: api.XName, Text: "d"}, {Kind: api.XList}})
	around = []api.Op{
		op(api.XList, 1), op(api.XSize, 1), op(api.XFail, 1), op(api.XPanic, 1), {Kind: api.XGate, N: 1, Text: "g"}, {Kind: api.XGate, N: 1, Text: "h"},
		op(api.XList, 2), op(api.XAdd, 2), op(api.XSub, 2), op(api.XMul, 2), op(api.XJoin, 2), op(api.XItem, 2), op(api.XLess, 2), op(api.XSame, 2), op(api.XTry, 2), {Kind: api.XLet, N: 2, Text: "x"}, {Kind: api.XLet, N: 2, Text: "y"},
		op(api.XList, 3), op(api.XIf, 3),
	}
)

// every calls f with each expression of just that size, where those locals are bound.
func every(size int, bound []string, leaves api.Expr, around []api.Op, f func(x api.Expr)) {
	if size == 1 {
		for _, o := range leaves {
			f(api.Expr{o})
		}
		for _, name := range bound {
			f(api.Expr{{Kind: api.XLocal, Text: name}})
		}
		return
	}
	for _, o := range around {
		if o.N < size {
			everyRow(size-1, o.N, bound, o, leaves, around, func(parts api.Expr) { f(append(parts, o)) })
		}
	}
}

// everyRow calls f with each row of parts of o, as many as are left, of that size in all.
func everyRow(size, left int, bound []string, o api.Op, leaves api.Expr, around []api.Op, f func(parts api.Expr)) {
	if left == 0 {
		if size == 0 {
			f(nil)
		}
		return
	}
	here := bound
	if o.Kind == api.XLet && left == 1 && !slices.Contains(bound, o.Text) {
		here = append(slices.Clone(bound), o.Text)
	}
	for n := 1; n <= size-left+1; n++ {
		if left == 1 && n < size {
			continue
		}
		every(n, here, leaves, around, func(first api.Expr) {
			everyRow(size-n, left-1, bound, o, leaves, around, func(rest api.Expr) { f(slices.Concat(first, rest)) })
		})
	}
}

// chance is an expression by chance that mostly comes to a value of that kind; its depth is at most left + 1.
func chance(r *rand.Rand, kind, left int, bound []string) api.Expr {
	if r.Intn(12) == 0 {
		kind = 1 + r.Intn(3)
	}
	if left == 0 || r.Intn(6) == 0 {
		return api.Expr{chanceLeaf(r, kind, bound)}
	}
	part := func(kind int) api.Expr { return chance(r, kind, left-1, bound) }
	with := func(o api.Op, parts ...api.Expr) api.Expr { return append(slices.Concat(parts...), o) }
	switch r.Intn(11) {
	case 0:
		return with(op(api.XIf, 3), part(api.VInt), part(kind), part(kind))
	case 1:
		return with(op(api.XTry, 2), part(kind), part(kind))
	case 2:
		return with(api.Op{Kind: api.XGate, N: 1, Text: []string{"g", "h", "k"}[r.Intn(3)]}, part(kind))
	case 3, 4:
		name := []string{"x", "y"}[r.Intn(2)]
		first := part(1 + r.Intn(3))
		return with(api.Op{Kind: api.XLet, N: 2, Text: name}, first, chance(r, kind, left-1, append(slices.Clone(bound), name)))
	case 5:
		return with(op(api.XItem, 2), part(api.VList), part(api.VInt))
	case 6:
		if r.Intn(3) == 0 {
			return with(op([]int{api.XFail, api.XPanic}[r.Intn(2)], 1), part(api.VText))
		}
	}
	switch kind {
	case api.VText:
		return with(op(api.XJoin, 2), part(api.VText), part(api.VText))
	case api.VList:
		if r.Intn(2) == 0 {
			return with(op(api.XJoin, 2), part(api.VList), part(api.VList))
		}
		n := r.Intn(4)
		var parts []api.Expr
		for range n {
			parts = append(parts, part(1+r.Intn(3)))
		}
		return with(op(api.XList, n), parts...)
	}
	one := 1 + r.Intn(3)
	switch n := r.Intn(6); n {
	case 0:
		return with(op(api.XLess, 2), part(one), part(one))
	case 1:
		return with(op(api.XSame, 2), part(one), part(one))
	case 2:
		return with(op(api.XSize, 1), part(2+r.Intn(2)))
	default:
		return with(op([]int{api.XAdd, api.XSub, api.XMul}[n-3], 2), part(api.VInt), part(api.VInt))
	}
}

func chanceLeaf(r *rand.Rand, kind int, bound []string) api.Op {
	if len(bound) > 0 && r.Intn(3) == 0 {
		return api.Op{Kind: api.XLocal, Text: bound[r.Intn(len(bound))]}
	}
	if r.Intn(3) == 0 {
		return api.Op{Kind: api.XName, Text: []string{"a", "b", "c", "d", "e"}[r.Intn(5)]}
	}
	switch kind {
	case api.VInt:
		return api.Op{Kind: api.XInt, Int: []int{0, 1, 2, -1, 3, most, -most, 1 << 27}[r.Intn(8)]}
	case api.VText:
		return api.Op{Kind: api.XText, Text: []string{"", "a", "ab", longText}[r.Intn(4)]}
	}
	return api.Op{Kind: api.XList}
}

// eachExpr calls f with expressions that are right: all small ones, and many by chance. The seed is fixed, so that each run is the same.
func eachExpr(f func(x api.Expr)) {
	for size := 1; size <= 4; size++ {
		every(size, nil, leaves, around, f)
	}
	// Of fewer kinds, but longer: bindings, and what is caught.
	for size := 5; size <= 7; size++ {
		every(size, nil, leaves[1:2], []api.Op{{Kind: api.XLet, N: 2, Text: "x"}, {Kind: api.XLet, N: 2, Text: "y"}, op(api.XAdd, 2)}, f)
		every(size, nil, leaves[5:8], []api.Op{op(api.XTry, 2), op(api.XIf, 3), {Kind: api.XGate, N: 1, Text: "g"}}, f)
	}
	r := rand.New(rand.NewSource(8))
	for range 12000 {
		if x := chance(r, 1+r.Intn(3), 1+r.Intn(6), nil); names.Check(x) == api.OK {
			f(x)
		}
	}
}

// place is what is known, and open.
type place struct {
	known []api.Known
	open  []string
}

// places are worlds in which the same names come to other things.
var places = []place{
	{},
	{known: knownAs("a 1", `b fail "b"`, `c panic "c"`), open: []string{"g"}},
	{known: knownAs(`a "t"`, "b 0", "c [1, [2]]", "d -3", `e cell a: fail "e"`), open: []string{"h", "g", "k"}},
	{known: knownAs("c 2", "b [[], 5]", "a none d", `e "ab"`), open: []string{"h"}},
}

func (p place) mean(t *testing.T, x api.Expr) api.Meaning {
	t.Helper()
	m, e := eval.Eval(x, p.known, p.open)
	if e != api.OK {
		t.Fatalf("Eval of %s in %s: %v", brief(x), brief(p), e)
	}
	return m
}

// 8.1 and 8.2

func TestEvalAndFoldAgainstTrees(t *testing.T) {
	kinds := map[int]int{}
	eachExpr(func(x api.Expr) {
		whole := treeOf(x)
		for _, p := range places {
			want := (&slow{known: p.known, open: p.open}).mean(whole)
			m := p.mean(t, x)
			if !sameMeaning(m, want) {
				t.Fatalf("Eval of %s in %s: %s; want %s", brief(x), brief(p), brief(m), brief(want))
			}
			kinds[m.Outcome.Kind]++
		}
		f, e := eval.Fold(x)
		if want := whole.fold().ops(); e != api.OK || !slices.Equal(f, want) {
			t.Fatalf("Fold of %s: %s, %v; want %s", brief(x), brief(f), e, brief(want))
		}
	})
	for _, kind := range []int{api.ONone, api.OValue, api.OFail, api.OPanic} {
		if kinds[kind] < 1000 {
			t.Errorf("outcomes of the kind %d: %d", kind, kinds[kind])
		}
	}
}

// 8.4

func TestWhatIsNotAskedForChangesNothing(t *testing.T) {
	others := []string{"", "7", `"other"`, "[[]]", "closed", `panic "other"`}
	eachExpr(func(x api.Expr) {
		if len(x) < 4 {
			return
		}
		p := places[len(x)%len(places)]
		want := p.mean(t, x)
		for i, name := range []string{"a", "b", "c", "d", "e", "f"} {
			if slices.Contains(want.Asked, name) {
				continue
			}
			q := place{open: p.open, known: slices.DeleteFunc(slices.Clone(p.known), func(k api.Known) bool { return k.Name == name })}
			if out := others[(i+len(x))%len(others)]; out != "" {
				q.known = append(q.known, knownAs(name+" "+out)...)
			}
			if m := q.mean(t, x); !sameMeaning(m, want) {
				t.Fatalf("%s in %s: %s; in %s: %s", brief(x), brief(p), brief(want), brief(q), brief(m))
			}
		}
		p.known = slices.Clone(p.known)
		slices.Reverse(p.known)
		if m := p.mean(t, x); !sameMeaning(m, want) {
			t.Fatalf("%s, with what is known in another order: %s; want %s", brief(x), brief(m), brief(want))
		}
	})
}

// 8.5

func TestMoreGatesOpen(t *testing.T) {
	further := 0
	eachExpr(func(x api.Expr) {
		for _, p := range places {
			was := p.mean(t, x)
			for _, gate := range []string{"g", "h", "k", "other"} {
				m := place{known: p.known, open: append(slices.Clone(p.open), gate)}.mean(t, x)
				if gate != was.Gate && !sameMeaning(m, was) {
					t.Fatalf("%s in %s: %s; with %s open: %s", brief(x), brief(p), brief(was), gate, brief(m))
				}
				if gate == was.Gate && (m.Gate == gate || len(m.Asked) < len(was.Asked) || !slices.Equal(m.Asked[:len(was.Asked)], was.Asked)) {
					t.Fatalf("%s in %s stood at %s: %s; open: %s", brief(x), brief(p), gate, brief(was), brief(m))
				}
				if len(m.Asked) > len(was.Asked) {
					further++
				}
			}
		}
	})
	if further < 1000 {
		t.Errorf("behind a gate that was opened something was asked for only %d times", further)
	}
}

// 8.6

func TestFoldingMeansTheSame(t *testing.T) {
	shorter := 0
	eachExpr(func(x api.Expr) {
		f, e := eval.Fold(x)
		if e != api.OK || names.Check(f) != api.OK || len(f) > len(x) {
			t.Fatalf("Fold of %s: %s, %v", brief(x), brief(f), e)
		}
		if again, e := eval.Fold(f); e != api.OK || !slices.Equal(again, f) {
			t.Fatalf("Fold of %s: %s; folded once more: %s, %v", brief(x), brief(f), brief(again), e)
		}
		if len(f) == len(x) {
			return
		}
		shorter++
		for _, p := range places {
			if m, want := p.mean(t, f), p.mean(t, x); !sameMeaning(m, want) {
				t.Fatalf("%s in %s: %s; folded, %s: %s", brief(x), brief(p), brief(want), brief(f), brief(m))
			}
		}
	})
	if shorter < 1000 {
		t.Errorf("only %d were folded", shorter)
	}
}

// 8.7

func TestLiteralsComeToTheirValues(t *testing.T) {
	look := func(v api.Value) {
		l, e := eval.Literal(v)
		if e != api.OK || len(l) != len(v) || !treeOf(l).literal() {
			t.Fatalf("Literal of %s: %s, %v", brief(v), brief(l), e)
		}
		for _, p := range places {
			if m := p.mean(t, l); !sameMeaning(m, api.Meaning{Outcome: valued(v)}) {
				t.Fatalf("Literal of %s: %s, which comes to %s", brief(v), brief(l), brief(m))
			}
		}
		if f, e := eval.Fold(l); e != api.OK || !slices.Equal(f, l) {
			t.Fatalf("the literal %s was folded: %s, %v", brief(l), brief(f), e)
		}
	}
	look(broad(api.MaxOps))
	look(deep(api.MaxNest))
	eachExpr(func(x api.Expr) {
		for _, p := range places[1:] {
			if m := p.mean(t, x); m.Outcome.Kind == api.OValue && len(m.Outcome.Value) <= api.MaxOps {
				look(m.Outcome.Value)
			}
		}
	})
}

// 8.8

// put is the expression t, each of whose locals in the list is that literal instead.
func (t *tree) put(locals []*tree, literal *tree) *tree {
	if slices.Contains(locals, t) {
		return literal
	}
	u := &tree{op: t.op}
	for _, p := range t.parts {
		u.parts = append(u.parts, p.put(locals, literal))
	}
	return u
}

func TestLetMeansItsLiteral(t *testing.T) {
	literals := []api.Expr{read("0"), read("5"), read(`"a"`), read(`[1, "a", []]`)}
	some := 0
	look := func(second api.Expr) {
		for _, l := range literals {
			x := append(slices.Concat(l, second), api.Op{Kind: api.XLet, N: 2, Text: "x"})
			whole := treeOf(x)
			put := whole.parts[1].put(whole.own(), treeOf(l)).ops()
			if names.Check(x) != api.OK || names.Check(put) != api.OK {
				continue
			}
			some++
			for _, p := range places {
				if m, want := p.mean(t, x), p.mean(t, put); !sameMeaning(m, want) {
					t.Fatalf("%s in %s: %s; %s: %s", brief(x), brief(p), brief(m), brief(put), brief(want))
				}
			}
		}
	}
	for size := 1; size <= 3; size++ {
		every(size, []string{"x"}, leaves, around, look)
	}
	r := rand.New(rand.NewSource(88))
	for range 3000 {
		look(chance(r, 1+r.Intn(3), 1+r.Intn(5), []string{"x"}))
	}
	if some < 10000 {
		t.Errorf("only %d were looked at", some)
	}
}

// P1: whatever is handed in, each call ends, and tells an error of what is wrong.
func TestWhateverIsHandedIn(t *testing.T) {
	r := rand.New(rand.NewSource(9))
	wrong := 0
	for range 60000 {
		x := make(api.Expr, r.Intn(6))
		v := make(api.Value, len(x))
		for i := range x {
			text := []string{"", "a", "x", "A", "g"}[r.Intn(5)]
			x[i] = api.Op{Kind: r.Intn(22) - 1, N: r.Intn(5) - 1, Int: r.Intn(3) - 1, Text: text}
			if r.Intn(3) > 0 {
				x[i] = append(around, leaves...)[r.Intn(len(around)+len(leaves))]
			}
			v[i] = api.Atom{Kind: r.Intn(5), N: r.Intn(3) - 1, Int: r.Intn(2), Text: text}
		}
		out := api.Outcome{Kind: r.Intn(5) - 1, Value: v, Fail: make(api.Fail, r.Intn(2))}
		m, e := eval.Eval(x, []api.Known{{Name: "a", Outcome: out}}, []string{[]string{"g", "A"}[r.Intn(2)]})
		f, foldCode := eval.Fold(x)
		right := names.Check(x) == api.OK
		if right != (foldCode == api.OK) || right != (len(f) > 0) || !right && (e != api.ErrShape || foldCode != api.ErrShape) || e != api.OK && !sameMeaning(m, api.Meaning{}) {
			t.Fatalf("%s: Eval: %s, %v; Fold: %s, %v", brief(x), brief(m), e, brief(f), foldCode)
		}
		if l, e := eval.Literal(v); (e == api.OK) != (len(l) > 0) || e != api.OK && e != api.ErrShape {
			t.Fatalf("Literal of %s: %s, %v", brief(v), brief(l), e)
		}
		if e != api.OK {
			wrong++
		}
	}
	if wrong == 0 {
		t.Error("none was wrong")
	}
}
