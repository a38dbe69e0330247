package names

import (
	"slices"

	"onceweb/api"
	"onceweb/lex"
)

// eachWhole hands over the place of each operation of e, which is one whole, and those of its parts, from the front on: so parts come ahead of what they are parts of. The list of parts is lent for the time of the visit alone.
func eachWhole(e api.Expr, visit func(at int, parts []int)) {
	var open []int // a stack: the places of those that are no parts yet
	for at, op := range e {
		first := len(open) - op.N
		visit(at, open[first:])
		open = append(open[:first], at)
	}
}

// Parts is the places of the parts of the operation at that place.
func Parts(e api.Expr, at int) ([]int, api.Errno) {
	if code := Check(e); code != api.OK {
		return nil, code
	}
	if at < 0 || at >= len(e) {
		return nil, api.ErrRange
	}
	var found []int
	eachWhole(e, func(place int, parts []int) {
		if place == at {
			found = slices.Clone(parts)
		}
	})
	return found, api.OK
}

// Asked is the names that e asks for.
func Asked(e api.Expr) ([]string, api.Errno) {
	if code := Check(e); code != api.OK {
		return nil, code
	}
	return textsOf(e, api.XName), api.OK
}

// Gates is the gates that e stands at.
func Gates(e api.Expr) ([]string, api.Errno) {
	if code := Check(e); code != api.OK {
		return nil, code
	}
	return textsOf(e, api.XGate), api.OK
}

// textsOf is the texts of e's operations of that kind, each once, in the order in which they stand first.
func textsOf(e api.Expr, kind int) []string {
	var texts []string
	for _, op := range e {
		if op.Kind == kind {
			texts = append(texts, op.Text)
		}
	}
	return eachOnce(texts)
}

// Sure is the names that e asks for, whatever all the names come to.
func Sure(e api.Expr) ([]string, api.Errno) {
	if code := Check(e); code != api.OK {
		return nil, code
	}
	sure := sureOf(e)
	return removeFunc(textsOf(e, api.XName), func(name string) bool { return !sure.has(name) }), api.OK
}

// sureOf is what e, which is one whole, surely asks for.
func sureOf(e api.Expr) nameSet {
	sure := make([]nameSet, len(e))
	eachWhole(e, func(at int, parts []int) {
		sure[at] = nameSet{}
		switch e[at].Kind {
		case api.XName:
			sure[at].add(e[at].Text)
		case api.XIf:
			sure[at].addAll(sure[parts[0]])
			sure[at].addBoth(sure[parts[1]], sure[parts[2]])
		case api.XTry:
			sure[at].addAll(sure[parts[0]])
		default:
			for _, part := range parts {
				sure[at].addAll(sure[part])
			}
		}
	})
	return sure[len(e)-1]
}

// Rename is e with one name asked for instead of another one.
func Rename(e api.Expr, from, to string) (api.Expr, api.Errno) {
	if code := Check(e); code != api.OK {
		return nil, code
	}
	if !lex.IsName(from) || !lex.IsName(to) {
		return nil, api.ErrForm
	}
	renamed := slices.Clone(e)
	for at, op := range e {
		if op.Kind == api.XName && op.Text == from {
			renamed[at].Text = to
		}
	}
	return renamed, api.OK
}
