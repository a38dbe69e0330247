package closer

import (
	"onceweb/api"
	"onceweb/fail"
)

const (
	nowhere   = -1 // the parent of a scope that has none
	lastEnded = 1 << 40
)

// isPlace tells whether there is a place of that number in what has so many.
func isPlace(at, many int) bool { return at >= 0 && at < many }

func checkParents(parents []int) api.Errno {
	if len(parents) > api.MaxScopes {
		return api.ErrLong
	}
	for child, parent := range parents {
		if parent != nowhere && !isPlace(parent, child) {
			return api.ErrShape
		}
	}
	return api.OK
}

// isPart tells whether p is right, where there are so many scopes and parts.
func isPart(p api.Part, scopes, many int) bool {
	return isPlace(p.Scope, scopes) && isEnded(p) && usesPlaces(p, many) && mayClose(p)
}

func isEnded(p api.Part) bool {
	if p.Ready {
		return p.Ended >= 1 && p.Ended <= lastEnded
	}
	return p.Ended == 0
}

func usesPlaces(p api.Part, many int) bool {
	for _, use := range p.Uses {
		if !isPlace(use, many) {
			return false
		}
	}
	return true
}

// mayClose tells whether p is right in what its closing hangs on: its name and its closer.
func mayClose(p api.Part) bool { return isName(p.Name) && isCloser(p.Closer) }

// isName asks layer 3 what a name is: a failure that wraps a part's name must be right, and layer 1 is none that this layer stands on.
func isName(s string) bool {
	_, code := fail.Leaf(api.FNone, s)
	return code == api.OK
}

func isCloser(c api.Closer) bool {
	switch c.Kind {
	case api.CloseNone, api.CloseFine:
		return c.Text == ""
	case api.CloseFail, api.ClosePanic:
		return len(c.Text) <= api.MaxWord
	}
	return false
}

// checkPlaces tells whether the parts at these places may be closed; the other parts do not count.
func checkPlaces(l []api.Part, order []int) api.Errno {
	if len(l) > api.MaxCells || len(order) > api.MaxCells {
		return api.ErrLong
	}
	for _, place := range order {
		if !isPlace(place, len(l)) {
			return api.ErrRange
		}
	}
	for _, place := range order {
		if !mayClose(l[place]) {
			return api.ErrPart
		}
	}
	return api.OK
}
