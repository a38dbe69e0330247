package value

import (
	"cmp"
	"slices"

	"onceweb/api"
)

// laid is a value as it is told from its front on: opens tells of each place how many lists begin there, and a list's own atom is its end.
type laid struct {
	atoms api.Value
	opens []int
}

// lay is v, which is right, laid out.
func lay(v api.Value) laid {
	l := laid{atoms: v, opens: make([]int, len(v))}
	for at, begin := range beginsOf(v) {
		if v[at].Kind == api.VList {
			l.opens[begin]++
		}
	}
	return l
}

// compare is told by the first place at which the two differ, since the same lists are open ahead of it: there one that opens a list stands behind one that does not, and one that ends a list, being shorter, ahead of one that goes on. (They differ ahead of the end of either: no whole is the beginning of another one.)
func (l laid) compare(other laid) int {
	for at := range min(len(l.atoms), len(other.atoms)) {
		if c := cmp.Or(cmp.Compare(l.opens[at], other.opens[at]), compareAtoms(l.atoms[at], other.atoms[at])); c != 0 {
			return c
		}
	}
	return 0
}

func compareAtoms(a, b api.Atom) int {
	return cmp.Or(cmp.Compare(rank(a.Kind), rank(b.Kind)), cmp.Compare(a.Int, b.Int), cmp.Compare(a.Text, b.Text))
}

// rank is where an atom of that kind stands in the order, if no list begins at it: as a list's end ahead of numbers ahead of texts.
func rank(kind int) int {
	if kind == api.VList {
		return 0
	}
	return kind
}

// order is -1, 0 or 1, as a stands ahead of b, is the same, or stands behind it; both are right.
func order(a, b api.Value) int { return lay(a).compare(lay(b)) }

// Compare is -1, 0 or 1, as a stands ahead of b in the order, is the same, or stands behind it.
func Compare(a, b api.Value) (int, api.Errno) {
	if e := checkAll([]api.Value{a, b}); e != api.OK {
		return 0, e
	}
	return order(a, b), api.OK
}

// Sort is l by the order; those that are the same stay as they stand.
func Sort(l []api.Value) ([]api.Value, api.Errno) {
	if e := checkAll(l); e != api.OK {
		return nil, e
	}
	// Each is laid out once, however often it is compared.
	all := make([]laid, len(l))
	places := make([]int, len(l))
	for i, v := range l {
		all[i], places[i] = lay(v), i
	}
	slices.SortStableFunc(places, func(one, other int) int { return all[one].compare(all[other]) })
	sorted := make([]api.Value, len(l))
	for i, place := range places {
		sorted[i] = slices.Clone(l[place])
	}
	return sorted, api.OK
}
