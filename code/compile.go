package code

import (
	"slices"

	"onceweb/api"
)

// tree is an operation with its parts hung on it: the numbers of locals are told from the whole down.
type tree struct {
	op    api.Op
	parts []tree
}

// treeOf is the tree of e, which is right.
func treeOf(e api.Expr) tree {
	var open []tree // a stack: those that are no parts yet
	for _, op := range e {
		first := len(open) - op.N
		whole := tree{op: op, parts: slices.Clone(open[first:])}
		open = append(open[:first], whole)
	}
	return open[0]
}

// compiler lays down the instructions of an expression from the front on.
type compiler struct {
	rows   []row
	code   api.Code
	locals []string // of the XLets in whose second part it is, each at its number
}

// row is what operations of one kind are compiled to.
type row struct {
	compile func(c *compiler, t tree)
}

func rowsByKind() []row {
	return []row{
		api.XInt:   {compile: (*compiler).number},
		api.XText:  {compile: (*compiler).text},
		api.XName:  {compile: (*compiler).name},
		api.XLocal: {compile: (*compiler).local},
		api.XList:  {compile: (*compiler).list},
		api.XAdd:   {compile: (*compiler).operation},
		api.XSub:   {compile: (*compiler).operation},
		api.XMul:   {compile: (*compiler).operation},
		api.XJoin:  {compile: (*compiler).operation},
		api.XItem:  {compile: (*compiler).operation},
		api.XSize:  {compile: (*compiler).operation},
		api.XLess:  {compile: (*compiler).operation},
		api.XSame:  {compile: (*compiler).operation},
		api.XIf:    {compile: (*compiler).choice},
		api.XTry:   {compile: (*compiler).attempt},
		api.XFail:  {compile: (*compiler).failure},
		api.XPanic: {compile: (*compiler).panicking},
		api.XGate:  {compile: (*compiler).gate},
		api.XLet:   {compile: (*compiler).let},
	}
}

func (c *compiler) whole(t tree) { c.rows[t.op.Kind].compile(c, t) }

func (c *compiler) parts(t tree) {
	for _, part := range t.parts {
		c.whole(part)
	}
}

// emit lays down in, and tells its place.
func (c *compiler) emit(in api.Instr) int {
	c.code = append(c.code, in)
	return len(c.code) - 1
}

// land makes the instruction at that place go on at the one that comes next: where that lies, is known only now.
func (c *compiler) land(place int) { c.code[place].A = len(c.code) }

func (c *compiler) number(t tree) { c.emit(api.Instr{Op: opInt, A: t.op.Int}) }

func (c *compiler) text(t tree) { c.emit(api.Instr{Op: opText, Text: t.op.Text}) }

func (c *compiler) name(t tree) { c.emit(api.Instr{Op: opForce, Text: t.op.Text}) }

// local goes from the nearest XLet outwards; there is one of its text, since the local is bound.
func (c *compiler) local(t tree) {
	number := len(c.locals) - 1
	for c.locals[number] != t.op.Text {
		number--
	}
	c.emit(api.Instr{Op: opLoad, A: number})
}

func (c *compiler) list(t tree) {
	c.parts(t)
	c.emit(api.Instr{Op: opMake, A: t.op.N})
}

func (c *compiler) operation(t tree) {
	c.parts(t)
	c.emit(api.Instr{Op: opDo, A: t.op.Kind})
}

func (c *compiler) choice(t tree) {
	c.whole(t.parts[0])
	other := c.emit(api.Instr{Op: opElse})
	c.whole(t.parts[1])
	end := c.emit(api.Instr{Op: opJump})
	c.land(other)
	c.whole(t.parts[2])
	c.land(end)
}

func (c *compiler) attempt(t tree) {
	other := c.emit(api.Instr{Op: opTry})
	c.whole(t.parts[0])
	c.emit(api.Instr{Op: opDone})
	end := c.emit(api.Instr{Op: opJump})
	c.land(other)
	c.whole(t.parts[1])
	c.land(end)
}

func (c *compiler) failure(t tree) {
	c.parts(t)
	c.emit(api.Instr{Op: opFail})
}

func (c *compiler) panicking(t tree) {
	c.parts(t)
	c.emit(api.Instr{Op: opPanic})
}

func (c *compiler) gate(t tree) {
	c.emit(api.Instr{Op: opGate, Text: t.op.Text})
	c.parts(t)
	c.emit(api.Instr{Op: opPast})
}

func (c *compiler) let(t tree) {
	number := len(c.locals)
	c.whole(t.parts[0])
	c.emit(api.Instr{Op: opKeep, A: number})
	c.locals = append(c.locals, t.op.Text)
	c.whole(t.parts[1])
	c.locals = c.locals[:number]
	c.emit(api.Instr{Op: opLeave, A: number})
}
