package eval

import (
	"slices"

	"onceweb/api"
	"onceweb/names"
	"onceweb/value"
)

// Literal is the expression that comes to v: an operation an atom.
func Literal(v api.Value) (api.Expr, api.Errno) {
	if value.Check(v) != api.OK {
		return nil, api.ErrShape
	}
	l := literalOf(v)
	// Of what is a whole and has no locals, nothing can be wrong but its length and its depth.
	if names.Check(l) != api.OK {
		return nil, api.ErrLong
	}
	return l, api.OK
}

// literalOf is the literal of v, which is right, however long.
func literalOf(v api.Value) api.Expr {
	l := make(api.Expr, len(v))
	for at, a := range v {
		l[at] = api.Op{Kind: kindOf(a), N: a.N, Int: a.Int, Text: a.Text}
	}
	return l
}

// kindOf is the kind of the operation that comes to a.
func kindOf(a api.Atom) int {
	switch a.Kind {
	case api.VInt:
		return api.XInt
	case api.VText:
		return api.XText
	}
	return api.XList
}

// valueOf is what x, which is a whole, comes to, if it is a literal.
func valueOf(x api.Expr) (api.Value, bool) {
	v := make(api.Value, len(x))
	for at, op := range x {
		kind, ok := atomKindOf(op)
		if !ok {
			return nil, false
		}
		v[at] = api.Atom{Kind: kind, N: op.N, Int: op.Int, Text: op.Text}
	}
	return v, true
}

// atomKindOf is the kind of the atom that op comes to, if a literal may have op.
func atomKindOf(op api.Op) (int, bool) {
	switch op.Kind {
	case api.XInt:
		return api.VInt, true
	case api.XText:
		return api.VText, true
	case api.XList:
		return api.VList, true
	}
	return 0, false
}

// Fold is x without what can be told ahead.
func Fold(x api.Expr) (api.Expr, api.Errno) {
	if names.Check(x) != api.OK {
		return nil, api.ErrShape
	}
	return build(x, folded), api.OK
}

// folded is what comes of op behind its parts, which are folded.
func folded(op api.Op, parts []api.Expr) api.Expr {
	stays := append(slices.Concat(parts...), op)
	switch op.Kind {
	case api.XList, api.XAdd, api.XSub, api.XMul, api.XJoin, api.XItem, api.XSize, api.XLess, api.XSame:
		if l, ok := done(op.Kind, parts); ok && len(l) <= len(stays) {
			return l
		}
	case api.XIf:
		if n, ok := literalNumber(parts[0]); ok && n != 0 {
			return parts[1]
		} else if ok {
			return parts[2]
		}
	case api.XTry:
		if isLiteral(parts[0]) {
			return parts[0]
		}
	case api.XLet:
		if isLiteral(parts[0]) && !asksLocal(parts[1], op.Text) {
			return parts[1]
		}
	}
	return stays
}

func isLiteral(x api.Expr) bool {
	_, ok := valueOf(x)
	return ok
}

// literalNumber is the number that x comes to, if it is the literal of one.
func literalNumber(x api.Expr) (int, bool) {
	v, ok := valueOf(x)
	if !ok {
		return 0, false
	}
	return numberOf(v)
}

// done is the literal of what the operation of that kind makes of its parts, if these are literals, and fit.
func done(kind int, parts []api.Expr) (api.Expr, bool) {
	args := make([]api.Value, len(parts))
	for i, part := range parts {
		v, ok := valueOf(part)
		if !ok {
			return nil, false
		}
		args[i] = v
	}
	v, ok, _ := value.Do(kind, args)
	if !ok {
		return nil, false
	}
	return literalOf(v), true
}

// asksLocal tells whether x has a local of that name that no XLet within x gives its value.
func asksLocal(x api.Expr, name string) bool {
	return build(x, func(op api.Op, parts []bool) bool {
		if op.Kind == api.XLet && op.Text == name {
			return parts[0]
		}
		return op.Kind == api.XLocal && op.Text == name || slices.Contains(parts, true)
	})
}
