package code

import (
	"slices"
	"strconv"

	"onceweb/api"
)

// Decompile is the expression whose code c is.
func Decompile(c api.Code) (api.Expr, api.Errno) {
	if e := Check(c); e != api.OK {
		return nil, e
	}
	x := exprOf(c)
	// What was taken for an expression too freely is found here.
	if back, e := Compile(x); e != api.OK || !slices.Equal(back, c) {
		return nil, api.ErrNone
	}
	return x, api.OK
}

// exprOf is the expression whose code c, which is sound, is, if there is one; else anything. Parts stand in a code in the order in which they stand in its expression, and so do the places where wholes end.
func exprOf(c api.Code) api.Expr {
	var d decompiler
	for at, in := range c {
		d.land(at)
		switch in.Op {
		case opJump:
			// No part ends with a CDone, and so one ahead of a CJump is that of its XTry.
			tried := at > 0 && c[at-1].Op == opDone
			d.ends = append(d.ends, end{at: in.A, op: choiceOrTry(tried)})
		case opGate:
			d.gates = append(d.gates, in.Text)
		default:
			d.take(in)
		}
	}
	return d.expr
}

// decompiler lays down the operations of an expression, each where its last part has ended.
type decompiler struct {
	expr  api.Expr
	gates []string // a stack: of those whose part is not over
	ends  []end    // a stack: of the XIfs and XTrys that are in their last part
}

// end is the place behind the last part of an XIf or an XTry.
type end struct {
	at int
	op api.Op
}

func choiceOrTry(tried bool) api.Op {
	if tried {
		return api.Op{Kind: api.XTry, N: 2}
	}
	return api.Op{Kind: api.XIf, N: 3}
}

// land lays down all that ends ahead of that place: what began last lies within the others, and ends first.
func (d *decompiler) land(at int) {
	for len(d.ends) > 0 && d.ends[len(d.ends)-1].at == at {
		last := len(d.ends) - 1
		d.lay(d.ends[last].op)
		d.ends = d.ends[:last]
	}
}

func (d *decompiler) lay(op api.Op) { d.expr = append(d.expr, op) }

// take lays down the operation that ends with in, if there is one.
func (d *decompiler) take(in api.Instr) {
	switch in.Op {
	case opInt:
		d.lay(api.Op{Kind: api.XInt, Int: in.A})
	case opText:
		d.lay(api.Op{Kind: api.XText, Text: in.Text})
	case opForce:
		d.lay(api.Op{Kind: api.XName, Text: in.Text})
	case opLoad:
		d.lay(api.Op{Kind: api.XLocal, Text: localName(in.A)})
	case opMake:
		d.lay(api.Op{Kind: api.XList, N: in.A})
	case opDo:
		takes, _ := effect(in)
		d.lay(api.Op{Kind: in.A, N: takes})
	case opFail:
		d.lay(api.Op{Kind: api.XFail, N: 1})
	case opPanic:
		d.lay(api.Op{Kind: api.XPanic, N: 1})
	case opPast:
		d.lay(api.Op{Kind: api.XGate, N: 1, Text: d.endGate()})
	case opLeave:
		d.lay(api.Op{Kind: api.XLet, N: 2, Text: localName(in.A)})
	}
}

// endGate is the gate whose part is over; none, where a place that can not be come to ends one that did not begin.
func (d *decompiler) endGate() string {
	last := len(d.gates) - 1
	if last < 0 {
		return ""
	}
	gate := d.gates[last]
	d.gates = d.gates[:last]
	return gate
}

// localName is the name of the local of that number.
func localName(number int) string { return "l" + strconv.Itoa(number) }
