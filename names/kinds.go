package names

import (
	"onceweb/api"
	"onceweb/lex"
)

// What the text of an operation may be.
const (
	textNone = iota // it has none
	textAny         // any one
	textName
)

// row is what an operation of one kind may be.
type row struct {
	parts int // how many; but see XList, which may have any number
	text  int
}

var rows = [...]row{
	api.XInt:   {},
	api.XText:  {text: textAny},
	api.XName:  {text: textName},
	api.XLocal: {text: textName},
	api.XList:  {},
	api.XAdd:   {parts: 2},
	api.XSub:   {parts: 2},
	api.XMul:   {parts: 2},
	api.XJoin:  {parts: 2},
	api.XItem:  {parts: 2},
	api.XSize:  {parts: 1},
	api.XLess:  {parts: 2},
	api.XSame:  {parts: 2},
	api.XIf:    {parts: 3},
	api.XTry:   {parts: 2},
	api.XFail:  {parts: 1},
	api.XPanic: {parts: 1},
	api.XGate:  {parts: 1, text: textName},
	api.XLet:   {parts: 2, text: textName},
}

// isOp tells whether op, but for what stands ahead of it and the length of its text, may be an operation.
func isOp(op api.Op) bool {
	if op.Kind < api.XInt || op.Kind > api.XLet {
		return false
	}
	return isArity(op) && isInt(op) && isText(op)
}

func isArity(op api.Op) bool {
	if op.Kind == api.XList {
		return op.N >= 0
	}
	return op.N == rows[op.Kind].parts
}

func isInt(op api.Op) bool {
	if op.Kind == api.XInt {
		return isWithin(op.Int, -api.MaxInt, api.MaxInt)
	}
	return op.Int == 0
}

func isText(op api.Op) bool {
	switch rows[op.Kind].text {
	case textAny:
		return true
	case textName:
		return lex.IsName(op.Text)
	}
	return op.Text == ""
}
