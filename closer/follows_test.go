package closer_test

import (
	"math/rand/v2"
	"slices"
	"testing"

	"onceweb/api"
	"onceweb/closer"
	"onceweb/fail"
)

// eachSome tells many lists of parts, with parents and a scope that is closed.
func eachSome(seed uint64, tell func(r *rand.Rand, parents []int, l []api.Part, scope int)) {
	r := rand.New(rand.NewPCG(19, seed))
	for range 1500 {
		for _, most := range []int{4, 9, 20} {
			parents := someParents(r, 6)
			tell(r, parents, someParts(r, len(parents), most), r.IntN(len(parents)))
			tell(r, single, someParts(r, 1, most), 0)
		}
	}
}

// ordered is the order of what may not be refused.
func ordered(t *testing.T, parents []int, l []api.Part, scope int) []int {
	t.Helper()
	order, e := closer.Order(parents, l, scope)
	if e != api.OK {
		t.Fatalf("Order of %v, %v, %d: %v", parents, l, scope, e)
	}
	return order
}

// wantReverse: whatever one uses is closed behind it, if both are closed, and neither goes round with the other; of one scope, or of any.
func wantReverse(t *testing.T, j judge, order []int, anyScope bool) int {
	t.Helper()
	pairs := 0
	for at, first := range order {
		for _, second := range order[at+1:] {
			if !anyScope && j.l[first].Scope != j.l[second].Scope {
				continue
			}
			if there, back := j.uses(first, second), j.uses(second, first); back && !there {
				t.Fatalf("%v, %v: order %v: %d uses %d", j.parents, j.l, order, second, first)
			} else if there && !back {
				pairs++
			}
		}
	}
	return pairs
}

// 19.3: the reverse order within a scope; a scope's parts behind all of scopes beneath it.
func TestReverseOrder(t *testing.T) {
	pairs, beneath := 0, 0
	eachSome(3, func(r *rand.Rand, parents []int, l []api.Part, scope int) {
		j := judge{parents, l}
		order := ordered(t, parents, l, scope)
		pairs += wantReverse(t, j, order, false)
		for at, first := range order {
			for _, second := range order[at+1:] {
				low, high := l[first].Scope, l[second].Scope
				if low != high && j.under(high, low) {
					t.Fatalf("%v, %v: order %v: %d is beneath %d", parents, l, order, second, first)
				}
				if low != high && j.under(low, high) {
					beneath++
				}
			}
		}
	})
	if pairs < 10000 || beneath < 2000 {
		t.Errorf("%d pairs of one scope, %d of one beneath another", pairs, beneath)
	}
}

// 19.3: where parts use none but those of their scopes from there up, as in a web, the reverse order holds for all.
func TestReverseOrderOverScopes(t *testing.T) {
	pairs := 0
	eachSome(4, func(r *rand.Rand, parents []int, l []api.Part, scope int) {
		j := judge{parents, l}
		for place := range l {
			l[place].Uses = slices.DeleteFunc(l[place].Uses, func(use int) bool { return !j.under(l[place].Scope, l[use].Scope) })
		}
		pairs += wantReverse(t, j, ordered(t, parents, l, scope), true)
	})
	if pairs < 10000 {
		t.Errorf("%d pairs", pairs)
	}
}

// 19.4: each ready part beneath once, no other one.
func TestOnce(t *testing.T) {
	closed := 0
	eachSome(5, func(_ *rand.Rand, parents []int, l []api.Part, scope int) {
		var wanted []int
		for place, p := range l {
			if p.Ready && (judge{parents, l}).under(p.Scope, scope) {
				wanted = append(wanted, place)
			}
		}
		order := ordered(t, parents, l, scope)
		closed += len(order)
		slices.Sort(order)
		if !slices.Equal(order, wanted) {
			t.Fatalf("%v, %v, %d: closed %v, want %v", parents, l, scope, order, wanted)
		}
	})
	if closed < 10000 {
		t.Errorf("%d closed", closed)
	}
}

// moved is l with each part at another place.
func moved(l []api.Part, to []int) []api.Part {
	other := make([]api.Part, len(l))
	for place, p := range l {
		uses := slices.Clone(p.Uses)
		for i, use := range uses {
			uses[i] = to[use]
		}
		p.Uses = uses
		other[to[place]] = p
	}
	return other
}

// 19.4: the order hangs on the parts' places only where Ended is the same.
func TestPlacesDoNotCount(t *testing.T) {
	eachSome(6, func(r *rand.Rand, parents []int, l []api.Part, scope int) {
		for place, ended := range r.Perm(len(l)) {
			if l[place].Ready {
				l[place].Ended = ended + 1
			}
		}
		wanted := closeText(parents, l, scope)
		for range 3 {
			other := moved(l, r.Perm(len(l)))
			want(t, closeText(parents, other, scope), wanted, "Close of", parents, l, "moved to", other)
		}
	})
	// Where the ends are the same, the places count.
	want(t, orderText(single, partsOf("a:1; b:1"), 0), "b a", "Order")
	want(t, orderText(single, moved(partsOf("a:1; b:1"), []int{1, 0}), 0), "a b", "Order of moved ones")
}

// 19.4: a list whose order uses tell alone, one behind the other, whatever ended when and wherever each stands.
func TestUsesTellAll(t *testing.T) {
	r := rand.New(rand.NewPCG(19, 7))
	for range 300 {
		l := manyParts(2 + r.IntN(30))
		using(l, func(from, to int) bool { return to == from+1 || to > from && r.IntN(4) == 0 })
		for place := range l {
			l[place].Ended = 1 + r.IntN(5)
		}
		to := r.Perm(len(l))
		want(t, listText(closer.Order(single, moved(l, to), 0)), listText(to, api.OK), "Order of", to)
	}
}

// 19.5: as many failures as closers that fail or panic, with their texts, in the order of closing.
func TestFailuresAreKept(t *testing.T) {
	none, some := 0, 0
	eachSome(8, func(_ *rand.Rand, parents []int, l []api.Part, scope int) {
		order, f, e := closer.Close(parents, l, scope)
		if e != api.OK {
			t.Fatalf("Close of %v, %v, %d: %v", parents, l, scope, e)
		}
		broken := slices.DeleteFunc(slices.Clone(order), func(place int) bool { return l[place].Closer.Kind < api.CloseFail })
		if len(broken) == 0 {
			none++
			want(t, failText(f, e), "nothing", "Close of what does not fail")
			return
		}
		some++
		leaves, e := fail.Leaves(f)
		parts, other := fail.Parts(f, len(f)-1)
		if e != api.OK || other != api.OK || len(leaves) != len(broken) || len(parts) != len(broken) {
			t.Fatalf("%v: %d failures, want %d", failText(f, api.OK), len(leaves), len(broken))
		}
		for i, place := range broken {
			kind := api.FRaise
			if l[place].Closer.Kind == api.ClosePanic {
				kind = api.FPanic
			}
			leaf, cell := leaves[i][0], f[parts[i]]
			if leaf.Kind != kind || leaf.Text != l[place].Closer.Text || cell.Kind != api.FCell || cell.Text != l[place].Name {
				t.Fatalf("%v: %d: %v, want %v", failText(f, api.OK), i, leaf, l[place])
			}
		}
		want(t, failText(closer.Fails(l, order)), failText(f, api.OK), "Fails of what Close tells")
	})
	if none < 100 || some < 1000 {
		t.Errorf("%d without a failure, %d with one", none, some)
	}
}

// What is closed with a scope is closed alike, whatever parts of no scope beneath it there are, if nobody uses those.
func TestOthersDoNotCount(t *testing.T) {
	eachSome(9, func(r *rand.Rand, parents []int, l []api.Part, scope int) {
		wanted := closeText(parents, l, scope)
		more := append(slices.Clone(l), api.Part{Scope: scope, Name: "idle", Uses: r.Perm(len(l))})
		for other := range parents {
			if !(judge{parents, l}).under(other, scope) {
				more = append(more, api.Part{Scope: other, Name: "other", Ready: true, Ended: 1 + r.IntN(50), Uses: r.Perm(len(l)), Closer: someCloser(r)})
			}
		}
		want(t, closeText(parents, more, scope), wanted, "Close of", parents, l, scope, "and others")
	})
}

// Beneath is what is closed: a ready part in each scope tells.
func TestBeneathIsWhatIsClosed(t *testing.T) {
	eachSome(10, func(_ *rand.Rand, parents []int, _ []api.Part, scope int) {
		var l []api.Part
		for at := range parents {
			l = append(l, api.Part{Scope: at, Name: nth(at), Ready: true, Ended: 1 + at%2})
		}
		scopes, e := closer.Beneath(parents, scope)
		want(t, listText(ordered(t, parents, l, scope), api.OK), listText(scopes, e), "Order of a part in each of", parents, scope)
	})
}
