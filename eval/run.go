package eval

import (
	"slices"

	"onceweb/api"
	"onceweb/fail"
	"onceweb/value"
)

// run is what the parts of an expression meet while they are looked at.
type run struct {
	known  map[string]api.Outcome
	open   map[string]struct{}
	locals []local // those of the XLets around, the nearest one last
	asked  []string
}

// local is what a name stands for in the second part of an XLet.
type local struct {
	name  string
	value api.Value
}

// look looks at one part, wherever it is, and tells what it comes to (without Asked, which the run has).
type look func() api.Meaning

// build hands over each operation of x, which is right, with what was made of its parts, from the front on: what is made of the last one is that of x. The list of parts is lent for the time of the call alone.
func build[T any](x api.Expr, whole func(op api.Op, parts []T) T) T {
	var open []T // a stack: of those that are no parts yet
	for _, op := range x {
		first := len(open) - op.N
		made := whole(op, open[first:])
		open = append(open[:first], made)
	}
	return open[0]
}

// lookAt is how op is looked at, whose parts are looked at so.
func (r *run) lookAt(op api.Op, parts []look) look {
	parts = slices.Clone(parts)
	return func() api.Meaning {
		switch op.Kind {
		case api.XInt, api.XText:
			v, _ := valueOf(api.Expr{op})
			return valued(v)
		case api.XLocal:
			return valued(r.nearest(op.Text))
		case api.XName:
			return r.ask(op.Text)
		case api.XIf:
			return pick(parts)
		case api.XTry:
			return attempt(parts)
		case api.XFail, api.XPanic:
			return raise(op.Kind, parts[0])
		case api.XGate:
			return r.pass(op.Text, parts[0])
		case api.XLet:
			return r.let(op.Text, parts)
		}
		return do(op.Kind, parts)
	}
}

func valued(v api.Value) api.Meaning {
	return api.Meaning{Outcome: api.Outcome{Kind: api.OValue, Value: v}}
}

// failed is an outcome of that kind with the failure that is one crack.
func failed(kind, crack int, text string) api.Meaning {
	f, _ := fail.Leaf(crack, text)
	return api.Meaning{Outcome: api.Outcome{Kind: kind, Fail: f}}
}

// unfit is that the values do not fit the operation of that kind.
func unfit(kind int) api.Meaning { return failed(api.OFail, api.FValue, value.Word(kind)) }

func isValue(m api.Meaning) bool { return m.Outcome.Kind == api.OValue }

// numberOf is the number that v, which is right, is.
func numberOf(v api.Value) (int, bool) {
	whole := v[len(v)-1]
	return whole.Int, whole.Kind == api.VInt
}

// textOf is the text that v, which is right, is.
func textOf(v api.Value) (string, bool) {
	whole := v[len(v)-1]
	return whole.Text, whole.Kind == api.VText
}

// nearest is what the name stands for in the nearest XLet around that has it.
func (r *run) nearest(name string) api.Value {
	for _, l := range slices.Backward(r.locals) {
		if l.name == name {
			return l.value
		}
	}
	return nil
}

func (r *run) ask(name string) api.Meaning {
	r.asked = append(r.asked, name)
	out, ok := r.known[name]
	if !ok {
		return failed(api.OFail, api.FNone, name)
	}
	return api.Meaning{Outcome: out}
}

func (r *run) pass(gate string, part look) api.Meaning {
	if _, ok := r.open[gate]; !ok {
		return api.Meaning{Gate: gate}
	}
	return part()
}

func (r *run) let(name string, parts []look) api.Meaning {
	m := parts[0]()
	if !isValue(m) {
		return m
	}
	around := r.locals
	r.locals = append(around, local{name: name, value: m.Outcome.Value})
	m = parts[1]()
	r.locals = around
	return m
}

func pick(parts []look) api.Meaning {
	m := parts[0]()
	if !isValue(m) {
		return m
	}
	n, ok := numberOf(m.Outcome.Value)
	switch {
	case !ok:
		return unfit(api.XIf)
	case n != 0:
		return parts[1]()
	}
	return parts[2]()
}

func attempt(parts []look) api.Meaning {
	m := parts[0]()
	if m.Outcome.Kind == api.OFail {
		return parts[1]()
	}
	return m
}

// raise fails, or panics, with the part's text.
func raise(kind int, part look) api.Meaning {
	m := part()
	if !isValue(m) {
		return m
	}
	text, ok := textOf(m.Outcome.Value)
	switch {
	case !ok:
		return unfit(kind)
	case kind == api.XPanic:
		return failed(api.OPanic, api.FPanic, text)
	}
	return failed(api.OFail, api.FRaise, text)
}

// do is the operation of that kind of all its parts' values.
func do(kind int, parts []look) api.Meaning {
	args := make([]api.Value, len(parts))
	for i, part := range parts {
		m := part()
		if !isValue(m) {
			return m
		}
		args[i] = m.Outcome.Value
	}
	v, ok, _ := value.Do(kind, args)
	if !ok {
		return unfit(kind)
	}
	return valued(v)
}
