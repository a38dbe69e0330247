package code

import (
	"onceweb/api"
	"onceweb/lex"
)

// The instructions as api numbers them, counted up: the places in the table of forms.
const (
	opInt = api.CInt + iota
	opText
	opForce
	opLoad
	opKeep
	opLeave
	opMake
	opDo
	opElse
	opJump
	opTry
	opDone
	opFail
	opPanic
	opGate
	opHalt
	opPast
)

// What stands behind an instruction's word in its line.
const (
	tailNone   = iota
	tailNumber // A
	tailPlace  // A, which must be a place behind the instruction's own
	tailKind   // the word of A
	tailQuoted // Text, in quotes
	tailName   // Text
)

// form is what an instruction may be, how it is told, and what it does to the stack.
type form struct {
	word         string
	tail         int
	least, most  int // of A; but see tailPlace
	takes, gives int // values; but see CMake and CDo, which take as many as A tells
}

var forms = [...]form{
	opInt:   {word: "int", tail: tailNumber, least: -api.MaxInt, most: api.MaxInt, gives: 1},
	opText:  {word: "text", tail: tailQuoted, gives: 1},
	opForce: {word: "force", tail: tailName, gives: 1},
	opLoad:  {word: "load", tail: tailNumber, most: api.MaxOps - 1, gives: 1},
	opKeep:  {word: "keep", tail: tailNumber, most: api.MaxOps - 1, takes: 1},
	opLeave: {word: "leave", tail: tailNumber, most: api.MaxOps - 1},
	opMake:  {word: "make", tail: tailNumber, most: api.MaxOps, gives: 1},
	opDo:    {word: "do", tail: tailKind, least: api.XAdd, most: api.XSame, gives: 1},
	opElse:  {word: "else", tail: tailPlace, takes: 1},
	opJump:  {word: "jump", tail: tailPlace},
	opTry:   {word: "try", tail: tailPlace},
	opDone:  {word: "done"},
	opFail:  {word: "fail", takes: 1},
	opPanic: {word: "panic", takes: 1},
	opGate:  {word: "gate", tail: tailName},
	opHalt:  {word: "halt"},
	opPast:  {word: "past"},
}

// isInstr tells whether in, at the place at, is well formed, where the places end ahead of end.
func isInstr(in api.Instr, at, end int) bool {
	if in.Op < opInt || in.Op > opPast {
		return false
	}
	least, most := forms[in.Op].least, forms[in.Op].most
	if forms[in.Op].tail == tailPlace {
		least, most = at+1, end-1
	}
	return in.A >= least && in.A <= most && isTextOf(in.Op, in.Text)
}

// isTextOf tells whether an instruction of that kind may have that text.
func isTextOf(op int, text string) bool {
	switch forms[op].tail {
	case tailQuoted:
		return len(text) <= api.MaxWord
	case tailName:
		return lex.IsName(text)
	}
	return text == ""
}

// effect is how many values in, which is well formed, takes off the stack, and how many it lays on it then.
func effect(in api.Instr) (takes, gives int) {
	takes, gives = forms[in.Op].takes, forms[in.Op].gives
	switch {
	case in.Op == opMake:
		takes = in.A
	case in.Op == opDo && in.A == api.XSize:
		takes = 1
	case in.Op == opDo:
		takes = 2
	}
	return takes, gives
}
