package closer_test

import (
	"fmt"
	"math/rand/v2"
	"slices"
	"testing"

	"onceweb/api"
	"onceweb/closer"
	"onceweb/names"
)

// judge is a second reading of the chapter: what is closed next is looked for anew, part by part, among all that are left.
type judge struct {
	parents []int
	l       []api.Part
}

func (j judge) parentsWrong() api.Errno {
	if len(j.parents) > api.MaxScopes {
		return api.ErrLong
	}
	for child, parent := range j.parents {
		if parent >= child || parent < -1 {
			return api.ErrShape
		}
	}
	return api.OK
}

// closerWrong asks chapter 5 whether a provider of that name, with that closer, would be right.
func closerWrong(p api.Part) bool {
	return names.CheckProvider(api.Provider{Name: p.Name, Expr: api.Expr{{Kind: api.XInt}}, Closer: p.Closer}) != api.OK
}

func (j judge) partWrong(p api.Part) bool {
	least, most := 0, 0
	if p.Ready {
		least, most = 1, lastEnded
	}
	return p.Scope < 0 || p.Scope > len(j.parents)-1 || closerWrong(p) || p.Ended < least || p.Ended > most ||
		slices.ContainsFunc(p.Uses, func(use int) bool { return use < 0 || use > len(j.l)-1 })
}

func (j judge) check() api.Errno {
	e := j.parentsWrong()
	switch {
	case e != api.OK:
		return e
	case len(j.l) > api.MaxCells:
		return api.ErrLong
	case slices.ContainsFunc(j.l, j.partWrong):
		return api.ErrPart
	}
	return api.OK
}

// under tells whether a scope is another one, or beneath it.
func (j judge) under(at, scope int) bool {
	return at == scope || at != -1 && j.under(j.parents[at], scope)
}

func (j judge) beneath(scope int) ([]int, api.Errno) {
	if e := j.parentsWrong(); e != api.OK {
		return nil, e
	}
	if scope < 0 || scope > len(j.parents)-1 {
		return nil, api.ErrRange
	}
	var all []int
	for at := range j.parents {
		if j.under(at, scope) {
			all = append([]int{at}, all...)
		}
	}
	return all, api.OK
}

// leads tells whether a part uses another one, at once or by way of parts that were not gone through yet.
func (j judge) leads(from, to int, gone map[int]bool) bool {
	for _, use := range j.l[from].Uses {
		if use == to {
			return true
		}
		if !gone[use] {
			gone[use] = true
			if j.leads(use, to, gone) {
				return true
			}
		}
	}
	return false
}

func (j judge) uses(from, to int) bool { return j.leads(from, to, map[int]bool{}) }

// later tells whether the first of two parts is closed ahead of the second, if uses do not tell.
func (j judge) later(a, b int) bool {
	x, y := j.l[a], j.l[b]
	switch {
	case x.Scope != y.Scope:
		return x.Scope > y.Scope
	case x.Ended != y.Ended:
		return x.Ended > y.Ended
	}
	return a > b
}

// holds tells whether a part must be closed ahead of another one of its scope.
func (j judge) holds(a, b int) bool {
	return j.l[a].Scope == j.l[b].Scope && j.uses(a, b) && !j.uses(b, a)
}

func (j judge) order(scope int) ([]int, api.Errno) {
	if e := j.check(); e != api.OK {
		return nil, e
	}
	if scope < 0 || scope >= len(j.parents) {
		return nil, api.ErrRange
	}
	var left, order []int
	for place, p := range j.l {
		if p.Ready && j.under(p.Scope, scope) {
			left = append(left, place)
		}
	}
	for len(left) > 0 {
		best := -1
		for _, a := range left {
			held := slices.ContainsFunc(left, func(b int) bool { return j.holds(b, a) })
			if !held && (best == -1 || j.later(a, best)) {
				best = a
			}
		}
		order = append(order, best)
		left = slices.DeleteFunc(left, func(a int) bool { return a == best })
	}
	return order, api.OK
}

func (j judge) fails(order []int) (api.Fail, api.Errno) {
	switch {
	case len(j.l) > api.MaxCells, len(order) > api.MaxCells:
		return nil, api.ErrLong
	case slices.ContainsFunc(order, func(place int) bool { return place < 0 || place > len(j.l)-1 }):
		return nil, api.ErrRange
	case slices.ContainsFunc(order, func(place int) bool { return closerWrong(j.l[place]) }):
		return nil, api.ErrPart
	}
	var f api.Fail
	many := 0
	for _, place := range order {
		p := j.l[place]
		if kind := []int{0, 0, api.FRaise, api.FPanic}[p.Closer.Kind]; kind > 0 {
			f = append(f, api.Crack{Kind: kind, Text: p.Closer.Text}, api.Crack{Kind: api.FCell, N: 1, Text: p.Name})
			many++
		}
	}
	if many == 0 {
		return nil, api.OK
	}
	return append(f, api.Crack{Kind: api.FJoin, N: many}), api.OK
}

// wantJudged holds what all calls tell against the judge.
func wantJudged(t *testing.T, parents []int, l []api.Part, scope int) {
	t.Helper()
	j := judge{parents, l}
	same := func(what, got, wanted string) {
		if got != wanted {
			t.Helper()
			t.Fatalf("%s of %v, %v, %d: %.300s, want %.300s", what, parents, l, scope, got, wanted)
		}
	}
	same("Check", checkText(closer.Check(parents, l)), checkText(j.check()))
	same("Beneath", listText(closer.Beneath(parents, scope)), listText(j.beneath(scope)))
	order, e := j.order(scope)
	same("Order", listText(closer.Order(parents, l, scope)), listText(order, e))
	same("Fails", failText(closer.Fails(l, order)), failText(j.fails(order)))
	wanted := checkText(e)
	if e == api.OK {
		wanted = namesText(l, order, e) + ": " + failText(j.fails(order))
	}
	same("Close", closeText(parents, l, scope), wanted)
}

// wantOrder holds Order alone against the judge.
func wantOrder(t *testing.T, parents []int, l []api.Part, scope int) {
	t.Helper()
	order, e := judge{parents, l}.order(scope)
	if got, wanted := listText(closer.Order(parents, l, scope)), listText(order, e); got != wanted {
		t.Fatalf("Order of %v, %v, %d: %s, want %s", parents, l, scope, got, wanted)
	}
}

// eachList tells all lists of n numbers below most.
func eachList(n, most int, tell func(l []int)) {
	l := make([]int, n)
	for {
		tell(l)
		i := 0
		for i < n && l[i] == most-1 {
			l[i] = 0
			i++
		}
		if i == n {
			return
		}
		l[i]++
	}
}

// bitsUses lets parts use what the bits tell: a row of them for each.
func bitsUses(l []api.Part, bits int) {
	using(l, func(from, to int) bool { return bits>>(from*len(l)+to)&1 == 1 })
}

// endings lets parts end as numbers tell; who has 0 is not ready.
func endings(l []api.Part, ended []int) {
	for place := range l {
		l[place].Ended, l[place].Ready = ended[place], ended[place] > 0
	}
}

// TestAllSmallLists: all lists of up to 3 parts that use one another anyhow, with all ends up to the third, or none; in one scope; and, of ends that differ, in all scopes of some trees.
func TestAllSmallLists(t *testing.T) {
	for n := range 4 {
		l := manyParts(n)
		for bits := range 1 << (n * n) {
			bitsUses(l, bits)
			eachList(n, 4, func(ended []int) {
				endings(l, ended)
				wantOrder(t, single, l, 0)
			})
		}
	}
	for _, parents := range [][]int{{-1, 0}, {-1, -1}} {
		l := manyParts(3)
		l[1].Ended, l[2].Ended = 3, 2
		eachList(3, 2, func(scopes []int) {
			for place := range l {
				l[place].Scope = scopes[place]
			}
			for bits := range 1 << 9 {
				bitsUses(l, bits)
				wantOrder(t, parents, l, 0)
				wantOrder(t, parents, l, 1)
			}
		})
	}
}

// TestAllListsOfFour: all ways in which 4 parts use one another, not themselves, each with a few ends.
func TestAllListsOfFour(t *testing.T) {
	r := rand.New(rand.NewPCG(19, 4))
	l := manyParts(4)
	for bits := range 1 << 16 {
		if bits&0x8421 > 0 {
			continue
		}
		bitsUses(l, bits)
		for range 6 {
			endings(l, someEndings(r, 4))
			wantOrder(t, single, l, 0)
		}
	}
}

// someEndings are ends of which some are the same, and some are none.
func someEndings(r *rand.Rand, n int) []int {
	ended := make([]int, n)
	most := 1 + r.IntN(2*n)
	for i := range ended {
		ended[i] = 1 + r.IntN(most)
		if r.IntN(5) == 0 {
			ended[i] = 0
		}
	}
	return ended
}

func someParents(r *rand.Rand, most int) []int {
	l := make([]int, 1+r.IntN(most))
	for child := range l {
		l[child] = r.IntN(child+1+r.IntN(2)) - 1
		if l[child] == child {
			l[child] = -1
		}
	}
	return l
}

func someCloser(r *rand.Rand) api.Closer {
	c := api.Closer{Kind: r.IntN(4)}
	if c.Kind > api.CloseFine {
		c.Text = []string{"", "no", "oh", "\xff\x00"}[r.IntN(4)]
	}
	return c
}

// someParts are up to so many parts of some scopes; they may go round or not, and use others more than once.
func someParts(r *rand.Rand, scopes, most int) []api.Part {
	l := make([]api.Part, 1+r.IntN(most))
	ended, named, straight := someEndings(r, len(l)), r.Perm(len(l)), r.IntN(2) == 0
	rank := make([]int, len(l))
	for place, at := range named {
		rank[at] = place
	}
	for place := range l {
		l[place] = api.Part{Scope: r.IntN(scopes), Name: nth(place), Ready: ended[place] > 0, Ended: ended[place], Closer: someCloser(r)}
		for range r.IntN(4) {
			if use := r.IntN(len(l)); !straight || rank[use] > rank[place] {
				l[place].Uses = append(l[place].Uses, use)
			}
		}
	}
	return l
}

func TestListsByChance(t *testing.T) {
	r := rand.New(rand.NewPCG(19, 1))
	for range 6000 {
		parents := someParents(r, 5)
		wantJudged(t, parents, someParts(r, len(parents), 9), r.IntN(len(parents)))
	}
	for range 60 {
		parents := someParents(r, api.MaxScopes)
		wantJudged(t, parents, someParts(r, len(parents), 40), r.IntN(len(parents)))
	}
	for range 60 {
		wantJudged(t, single, someParts(r, 1, 40), 0)
	}
}

// TestFaultsByChance: lists of which up to 3 parts are spoilt, with parents and scopes that may be wrong too.
func TestFaultsByChance(t *testing.T) {
	r := rand.New(rand.NewPCG(19, 2))
	all := allFaults()
	for range 6000 {
		parents := someParents(r, 5)
		l := someParts(r, len(parents), 6)
		for range r.IntN(4) {
			all[r.IntN(len(all))].spoil(&l[r.IntN(len(l))], len(parents), len(l))
		}
		if r.IntN(8) == 0 {
			parents[r.IntN(len(parents))] = r.IntN(8) - 2
		}
		wantJudged(t, parents, l, r.IntN(len(parents)+2)-1)
		order := someOrder(r, len(l))
		want(t, failText(closer.Fails(l, order)), failText(judge{nil, l}.fails(order)), "Fails", fmt.Sprint(l), order)
	}
}

// someOrder is places, some of them more than once; seldom one that is none.
func someOrder(r *rand.Rand, many int) []int {
	order := make([]int, r.IntN(6))
	for i := range order {
		order[i] = r.IntN(many)
		if r.IntN(20) == 0 {
			order[i] = []int{-1, many, many + 1}[r.IntN(3)]
		}
	}
	return order
}
