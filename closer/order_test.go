package closer_test

import (
	"slices"
	"strings"
	"testing"

	"onceweb/api"
	"onceweb/closer"
)

// 19.1: Order.

type orderCase struct {
	parents []int
	parts   string
	scope   int
	wanted  string
}

func wantOrders(t *testing.T, all []orderCase) {
	t.Helper()
	for _, c := range all {
		want(t, orderText(c.parents, partsOf(c.parts), c.scope), c.wanted, "Order", c.parents, c.parts, c.scope)
	}
}

var (
	single = []int{-1}
	under  = []int{-1, 0}
	tree   = []int{-1, 0, 1, 0, 1}
)

func TestOrderByEnded(t *testing.T) {
	wantOrders(t, []orderCase{
		{single, "", 0, ""},
		{single, "a", 0, ""}, {single, "a:1", 0, "a"}, {single, "a; b a; c b", 0, ""},
		{single, "a:1; b:2; c:3", 0, "c b a"}, {single, "a:3; b:2; c:1", 0, "a b c"}, {single, "a:2; b:3; c:1", 0, "b a c"},
		{single, "a:2; b; c:1; d; e:3", 0, "e a c"},
		{single, "a:1; b:1099511627776; c:1099511627775", 0, "b c a"},
		// The same end: the later place.
		{single, "a:1; b:1", 0, "b a"}, {single, "a:1; b:1; c:1; d:1", 0, "d c b a"},
		{single, "a:2; b:1; c:2; d:1; e:3", 0, "e c a d b"},
		{single, "a:1 c; b:1; c:1", 0, "b a c"}, {single, "a:1; b:1 c; c:1; d:1 a", 0, "d b c a"},
	})
}

func TestOrderByUses(t *testing.T) {
	wantOrders(t, []orderCase{
		{single, "a:2 b; b:1", 0, "a b"}, {single, "a:1 b; b:2", 0, "a b"}, {single, "a:1; b:2 a", 0, "b a"}, {single, "a:2; b:1 a", 0, "b a"},
		{single, "a:2 b; b:1; c:3", 0, "c a b"},
		// By way of one, of several.
		{single, "a:1 b; b:2 c; c:3", 0, "a b c"}, {single, "a:1 b; b:2 c; c:3 d; d:4 e; e:5", 0, "a b c d e"}, {single, "e:5; d:4 e; c:3 d; b:2 c; a:1 b", 0, "a b c d e"},
		{single, "a:1 b c; b:2 d; c:3 d; d:4", 0, "a c b d"}, {single, "a:1 c; b:2 c; c:9", 0, "b a c"},
		// By way of one that is not ready, of several such ones.
		{single, "a:1 b; b c; c:3", 0, "a c"}, {single, "a:1 b; b c; c d; d:4", 0, "a d"}, {single, "a:1 b; b:2 c; c d; d:4", 0, "a b d"}, {single, "a:1 b; b; c:3", 0, "c a"},
		{single, "b c; a:1 b; c:3", 0, "a c"}, {single, "c:3; b c; a:1 b", 0, "a c"},
		// The same one twice, itself.
		{single, "a:1 b b b; b:2", 0, "a b"}, {single, "a:1 a; b:2", 0, "b a"}, {single, "a:1 a b a; b:2 b", 0, "a b"}, {single, "a:2 a; b:1 b", 0, "a b"},
		// Of those that may be next, the one that ended last: also one that may be only since another one is closed.
		{single, "a:5 b; b:9; c:4; d:6", 0, "d a b c"}, {single, "a:1 b; b:9; c:4; d:6", 0, "d c a b"}, {single, "a:7 b c; b:9 d; c:8 d; d:10; e:1; f:11", 0, "f a b c d e"},
		{single, "a:3 d; b:2 d; c:1 d; d:4; e:5", 0, "e a b c d"},
	})
}

func TestOrderOfRounds(t *testing.T) {
	wantOrders(t, []orderCase{
		{single, "a:1 b; b:2 a", 0, "b a"}, {single, "a:2 b; b:1 a", 0, "a b"}, {single, "a:1 b; b:1 a", 0, "b a"},
		{single, "a:1 b; b:2 c; c:3 a", 0, "c b a"}, {single, "a:1 b; b:3 c; c:2 a", 0, "b c a"}, {single, "a:3 b; b:1 c; c:2 a", 0, "a c b"},
		{single, "a:1 b; b:2 c; c:3 d; d:4 e; e:5 a", 0, "e d c b a"},
		// By way of one that is not ready.
		{single, "a:1 b; b c; c:3 a", 0, "c a"}, {single, "a:1 b; b a; c:2", 0, "c a"},
		// Others use them, and are used by them, by whichever of them.
		{single, "u:1 a; a:2 b; b:3 a", 0, "u b a"}, {single, "u:1 b; a:3 b; b:2 a", 0, "u a b"},
		{single, "a:1 b u; b:2 a; u:9", 0, "b a u"}, {single, "a:2 b u; b:1 a; u:9", 0, "a b u"},
		{single, "u:1 a; a:2 b; b:3 a w; w:4", 0, "u b a w"}, {single, "u:1 b; a:2 b w; b:3 a; w:4; z:5", 0, "z u b a w"},
		{single, "u:1 a; a b; b a w; w:4", 0, "u w"}, {single, "u:1 a; a:2 b; b a w; w:4", 0, "u a w"},
		// One round uses another one; two by themselves.
		{single, "a:1 b c; b:2 a; c:3 d; d:4 c", 0, "b a d c"}, {single, "a:1 b; b:4 a; c:2 d; d:3 c", 0, "b d c a"},
		{single, "a:9 b; b:8 a; c:1 d a; d:2 c", 0, "d c a b"},
		// One between the ends of those that go round.
		{single, "a:1 b; b:5 a; c:3", 0, "b c a"}, {single, "a:1 b; b:5 a; c:3 d; d:9", 0, "b c d a"},
		{single, "a:1 b c; b:2 a c d; c:3 c d; d:4 b", 0, "d c b a"},
	})
}

func TestOrderOfScopes(t *testing.T) {
	wantOrders(t, []orderCase{
		{under, "x/1:1; y:2", 0, "x y"}, {under, "x/1:2; y:1", 0, "x y"}, {under, "x/1:1; y:2", 1, "x"}, {under, "x:1; y/1:2", 0, "y x"},
		{[]int{-1, -1}, "x/1:1; y:2", 0, "y"}, {[]int{-1, -1}, "x/1:1; y:2", 1, "x"},
		// Beside one another: the greatest number first, whatever ended last.
		{[]int{-1, 0, 0}, "a:9; b/1:8; c/2:7", 0, "c b a"}, {[]int{-1, 0, 0}, "a/1:1; b/2:2; c/1:3; d/2:4; e:5; f:6", 0, "d b c a f e"},
		{[]int{-1, 0, 0}, "a/1:1; b/2:2; c/1:3; d/2:4; e:5; f:6", 1, "c a"},
		// Beneath and beside: the number alone, not how deep one is.
		{tree, "a:1; b/1:2; c/2:3; d/3:4; e/4:5", 0, "e d c b a"}, {tree, "a:5; b/1:4; c/2:3; d/3:2; e/4:1", 0, "e d c b a"},
		{tree, "a:1; b/1:2; c/2:3; d/3:4; e/4:5", 1, "e c b"}, {tree, "a:1; b/1:2; c/2:3; d/3:4; e/4:5", 2, "c"}, {tree, "a:1; b/1:2; c/2:3; d/3:4; e/4:5", 3, "d"}, {tree, "a:1; b/1:2; c/2:3; d/3:4; e/4:5", 4, "e"},
		{tree, "a:1; b/2:2", 4, ""},
		{[]int{-1, 0, 1, 2}, "a/2:1; b/3:1; c/1:1; d:1; e/2:2", 0, "b e a c d"}, {[]int{-1, 0, 1, 2}, "a/2:1; b/3:1; c/1:1; d:1; e/2:2", 2, "b e a"},
	})
}

func TestOrderByUsesOverScopes(t *testing.T) {
	wantOrders(t, []orderCase{
		// By way of one of a scope beneath, above, beside, of none that is closed.
		{under, "a:1 x; x/1:9 b; b:2", 0, "x a b"}, {under, "a/1:1 x; x:9 b; b/1:2", 0, "a b x"}, {under, "a/1:1 x; x:9 b; b/1:2", 1, "a b"}, {under, "a/1:1 x; x b; b/1:2", 1, "a b"},
		{[]int{-1, 0, 0}, "a/1:1 x; x/2:9 b; b/1:2", 1, "a b"}, {[]int{-1, 0, 0}, "a/1:1 x; x/2 b; b/1:2", 0, "a b"}, {[]int{-1, -1}, "a/1:1 x; x:9 b; b/1:2", 1, "a b"},
		{[]int{-1, 0, 0, -1}, "a/1:1 x; x/2 y; y/3:5 z; z z b; b/1:2; c/1:3", 1, "c a b"},
		// The scopes come first, whichever uses which.
		{under, "a:1 b; b/1:2", 0, "b a"}, {under, "a/1:1 b; b:2", 0, "a b"}, {[]int{-1, 0, 0}, "a/1:1 b; b/2:2", 0, "b a"}, {[]int{-1, 0, 0}, "a/1:2; b/2:1 a", 0, "b a"},
		// Round and round over scopes.
		{under, "a:1 x; x/1:9 b; b:2 a", 0, "x b a"}, {under, "a:1 x; x/1:9 a b; b:2", 0, "x a b"}, {under, "a/1:3 x; x b; b/1:2 a", 1, "a b"}, {under, "a/1:2 x; x b; b/1:3 a", 1, "b a"},
		{[]int{-1, -1}, "u/1:1 a; a/1:2 x; x b; b/1:3 a w; w/1:9", 1, "u b a w"},
	})
}

// TestOrderOfMany: as many parts as may be, with more uses than a graph of layer 15 has room for.
func TestOrderOfMany(t *testing.T) {
	rising := falling(api.MaxCells-1, 0)
	slices.Reverse(rising)
	uses := map[string]func(from, to int) bool{
		"all behind":   func(from, to int) bool { return from < to },
		"the next one": func(from, to int) bool { return from+1 == to },
		"itself, all":  func(from, to int) bool { return from <= to },
		"half":         func(from, to int) bool { return from < to && (to-from == 1 || (from+to)%2 == 0) },
	}
	for what, is := range uses {
		l := manyParts(api.MaxCells)
		using(l, is)
		want(t, listText(closer.Order(single, l, 0)), listText(rising, api.OK), "Order of many that use", what)
		using(l, func(from, to int) bool { return is(to, from) })
		want(t, listText(closer.Order(single, l, 0)), listText(falling(api.MaxCells-1, 0), api.OK), "Order of many, turned, that use", what)
	}
	l := manyParts(api.MaxCells)
	using(l, func(from, to int) bool { return true })
	want(t, listText(closer.Order(single, l, 0)), listText(falling(api.MaxCells-1, 0), api.OK), "Order of many that all use each other")
	// The first half uses the second one; both by the ends.
	using(l, func(from, to int) bool { return from < api.MaxCells/2 && to >= api.MaxCells/2 })
	wanted := append(falling(api.MaxCells/2-1, 0), falling(api.MaxCells-1, api.MaxCells/2)...)
	want(t, listText(closer.Order(single, l, 0)), listText(wanted, api.OK), "Order of two halves")
}

// using lets parts use what is told.
func using(l []api.Part, is func(from, to int) bool) {
	for from := range l {
		l[from].Uses = nil
		for to := range l {
			if is(from, to) {
				l[from].Uses = append(l[from].Uses, to)
			}
		}
	}
}

// TestLongUses: a part may use others any number of times.
func TestLongUses(t *testing.T) {
	l := partsOf("a:1; b:2; c:3; d:4")
	l[0].Uses = append(slices.Repeat([]int{0, 3}, 1<<20), 2)
	l[3].Uses = append(slices.Repeat([]int{3}, 1<<20), 1)
	want(t, orderText(single, l, 0), "a d c b", "Order of long uses")
	want(t, closeText(single, l, 0), "a d c b: nothing", "Close of long uses")
	l[0].Uses = append(l[0].Uses, 4)
	want(t, orderText(single, l, 0), "error 190", "Order of long uses, the last one wrong")
}

func TestOrderInManyScopes(t *testing.T) {
	l := manyParts(api.MaxCells)
	for place := range l {
		l[place].Scope = place % api.MaxScopes
	}
	var wanted []string
	for scope := api.MaxScopes - 1; scope >= 0; scope-- {
		for place := api.MaxCells - api.MaxScopes + scope; place >= 0; place -= api.MaxScopes {
			wanted = append(wanted, nth(place))
		}
	}
	each := api.MaxCells / api.MaxScopes
	for scope := range api.MaxScopes {
		want(t, orderText(chain(api.MaxScopes), l, scope), strings.Join(wanted[:(api.MaxScopes-scope)*each], " "), "Order in a chain", scope)
		from := (api.MaxScopes - 1 - scope) * each
		want(t, orderText(roots(api.MaxScopes), l, scope), strings.Join(wanted[from:from+each], " "), "Order in one by itself", scope)
	}
}

// The chapter's examples.

func TestExamples(t *testing.T) {
	want(t, orderText(single, partsOf("a:2 b; b:1"), 0), "a b", "example 1")
	want(t, orderText(single, partsOf("a:2 b; b:1; c:3"), 0), "c a b", "example 1")
	for _, ended := range []string{"x/1:1; y:2", "x/1:2; y:1", "x/1:1; y:1", "y:5; x/1:9"} {
		want(t, orderText(under, partsOf(ended), 0), "x y", "example 2")
		want(t, orderText(under, partsOf(ended), 1), "x", "example 2")
	}
	// DOC.md's sixth.
	want(t, closeText(single, partsOf("a:2 b !no; b:1 ?oh"), 0), `a b: join(cell a: fail "no"; cell b: panic "oh")`, "example 6 of the whole")
}
