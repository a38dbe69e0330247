package value

import (
	"slices"

	"onceweb/api"
)

var words = [...]string{
	api.XList:  "list",
	api.XAdd:   "add",
	api.XSub:   "sub",
	api.XMul:   "mul",
	api.XJoin:  "join",
	api.XItem:  "item",
	api.XSize:  "size",
	api.XLess:  "less",
	api.XSame:  "same",
	api.XIf:    "if",
	api.XFail:  "fail",
	api.XPanic: "panic",
}

// Word is what the operation of that kind is called; empty, if it has no word.
func Word(kind int) string {
	if kind < 0 || kind >= len(words) {
		return ""
	}
	return words[kind]
}

// Do is what the operation of that kind makes of args; false, if it does not fit them.
func Do(kind int, args []api.Value) (api.Value, bool, api.Errno) {
	parts, do := operation(kind)
	switch {
	case do == nil:
		return nil, false, api.ErrRange
	case len(args) > api.MaxItems:
		return nil, false, api.ErrLong
	case parts != anyParts && len(args) != parts:
		return nil, false, api.ErrShape
	}
	if e := checkAll(args); e != api.OK {
		return nil, false, e
	}
	v, ok := do(args)
	return v, ok, api.OK
}

// anyParts is how many parts an operation has that has no number of its own.
const anyParts = -1

// operation is how many parts the operation of that kind has, and what it does; nil, if values alone do not make one.
func operation(kind int) (int, func(arguments) (api.Value, bool)) {
	switch kind {
	case api.XList:
		return anyParts, arguments.list
	case api.XAdd:
		return 2, arguments.add
	case api.XSub:
		return 2, arguments.sub
	case api.XMul:
		return 2, arguments.mul
	case api.XJoin:
		return 2, arguments.join
	case api.XItem:
		return 2, arguments.item
	case api.XSize:
		return 1, arguments.size
	case api.XLess:
		return 2, arguments.less
	case api.XSame:
		return 2, arguments.same
	}
	return 0, nil
}

// arguments are right values, as many as the operation has parts that they are handed to. Each of their methods is an operation: its value, new memory; or false.
type arguments []api.Value

func (l arguments) list() (api.Value, bool) { return listOf(l) }

func (l arguments) add() (api.Value, bool) {
	a, b, ok := l.numbers()
	return number(a+b, ok)
}

func (l arguments) sub() (api.Value, bool) {
	a, b, ok := l.numbers()
	return number(a-b, ok)
}

func (l arguments) mul() (api.Value, bool) {
	a, b, ok := l.numbers()
	// Asked ahead of the product, which may wrap round.
	if a != 0 && abs(b) > api.MaxInt/abs(a) {
		return nil, false
	}
	return number(a*b, ok)
}

// numbers is the two numbers that the arguments are; false, if they are others.
func (l arguments) numbers() (int, int, bool) {
	a, b := whole(l[0]), whole(l[1])
	return a.Int, b.Int, a.Kind == api.VInt && b.Kind == api.VInt
}

// number is n as a value, if it fits and may be one.
func number(n int, fits bool) (api.Value, bool) {
	if !fits {
		return nil, false
	}
	v, e := Int(n)
	return v, e == api.OK
}

func abs(n int) int { return max(n, -n) }

func (l arguments) join() (api.Value, bool) {
	a, b := whole(l[0]), whole(l[1])
	switch {
	case a.Kind == api.VText && b.Kind == api.VText:
		v, e := Text(a.Text + b.Text)
		return v, e == api.OK
	case a.Kind == api.VList && b.Kind == api.VList:
		return listOf(append(membersOf(l[0]), membersOf(l[1])...))
	}
	return nil, false
}

func (l arguments) item() (api.Value, bool) {
	list, place := whole(l[0]), whole(l[1])
	if list.Kind != api.VList || place.Kind != api.VInt || place.Int < 0 || place.Int >= list.N {
		return nil, false
	}
	return slices.Clone(membersOf(l[0])[place.Int]), true
}

func (l arguments) size() (api.Value, bool) {
	switch a := whole(l[0]); a.Kind {
	case api.VText:
		return number(len(a.Text), true)
	case api.VList:
		return number(a.N, true)
	}
	return nil, false
}

func (l arguments) less() (api.Value, bool) { return truth(order(l[0], l[1]) < 0) }

func (l arguments) same() (api.Value, bool) { return truth(order(l[0], l[1]) == 0) }

// truth is 1, if that holds; else 0.
func truth(holds bool) (api.Value, bool) {
	if holds {
		return number(1, true)
	}
	return number(0, true)
}
