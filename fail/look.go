package fail

import (
	"slices"

	"onceweb/api"
)

// whole is the sub-failure that ends at a crack: the place of its first crack, and the places at which its parts end, in order.
type whole struct {
	from  int
	parts []int
}

// wholesOf is the whole that ends at each crack of f, which is right.
func wholesOf(f api.Fail) []whole {
	all := make([]whole, len(f))
	var open []int // a stack: where those wholes end that are no parts yet
	for at, c := range f {
		first := len(open) - c.N
		all[at] = whole{from: at, parts: slices.Clone(open[first:])}
		if c.N > 0 {
			all[at].from = all[open[first]].from
		}
		open = append(open[:first], at)
	}
	return all
}

// Parts is the places of the parts of the crack at that place.
func Parts(f api.Fail, at int) ([]int, api.Errno) {
	if e := Check(f); e != api.OK {
		return nil, e
	}
	if at < 0 || at >= len(f) {
		return nil, api.ErrRange
	}
	return wholesOf(f)[at].parts, api.OK
}

// Is tells whether g is f, or in it.
func Is(f, g api.Fail) (bool, api.Errno) {
	if e := Check(f); e != api.OK {
		return false, e
	}
	if e := Check(g); e != api.OK {
		return false, e
	}
	for at, w := range wholesOf(f) {
		if slices.Equal(f[w.from:at+1], g) {
			return true, api.OK
		}
	}
	return false, api.OK
}

// Has tells whether a crack of f has that kind.
func Has(f api.Fail, kind int) (bool, api.Errno) {
	if e := checkBoth(f, kind); e != api.OK {
		return false, e
	}
	return slices.ContainsFunc(f, func(c api.Crack) bool { return c.Kind == kind }), api.OK
}

// First is the first sub-failure of that kind, a whole ahead of its parts.
func First(f api.Fail, kind int) (api.Fail, api.Errno) {
	if e := checkBoth(f, kind); e != api.OK {
		return nil, e
	}
	all := wholesOf(f)
	first := -1
	for at, w := range all {
		// Where a later one does not begin behind the first one so far, it has that one within it.
		if f[at].Kind == kind && (first < 0 || w.from <= all[first].from) {
			first = at
		}
	}
	if first < 0 {
		return nil, api.ErrNone
	}
	return slices.Clone(f[all[first].from : first+1]), api.OK
}

func checkBoth(f api.Fail, kind int) api.Errno {
	if e := Check(f); e != api.OK {
		return e
	}
	if !isKind(kind) {
		return api.ErrRange
	}
	return api.OK
}

// Leaves is all leaves of f, in order.
func Leaves(f api.Fail) ([]api.Fail, api.Errno) {
	if e := Check(f); e != api.OK {
		return nil, e
	}
	var leaves []api.Fail
	for _, c := range f {
		if c.N == 0 {
			leaves = append(leaves, api.Fail{c})
		}
	}
	return leaves, api.OK
}

// Path is the names of the cells from the whole down, as far as there is one way alone.
func Path(f api.Fail) ([]string, api.Errno) {
	if e := Check(f); e != api.OK {
		return nil, e
	}
	var names []string
	// A crack's only part ends just ahead of it.
	for at := len(f) - 1; at >= 0; at-- {
		if f[at].Kind == api.FCell {
			names = append(names, f[at].Text)
		}
		if f[at].N != 1 {
			break
		}
	}
	return names, api.OK
}

// Deep is how many cracks the longest way from the whole to a leaf has.
func Deep(f api.Fail) (int, api.Errno) {
	if e := Check(f); e != api.OK {
		return 0, e
	}
	deep := make([]int, len(f))
	for at, w := range wholesOf(f) {
		deep[at] = 1
		for _, part := range w.parts {
			deep[at] = max(deep[at], 1+deep[part])
		}
	}
	return deep[len(f)-1], api.OK
}
