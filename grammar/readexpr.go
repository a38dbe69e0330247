package grammar

import (
	"slices"

	"onceweb/api"
	"onceweb/lex"
	"onceweb/names"
)

// readWhole reads an expression that is no part of another one. What comes behind it is looked at by needRest ahead of its size.
func (r *reader) readWhole(needRest func()) api.Expr {
	first := r.next().At
	// New memory each time: expressions of one answer share none.
	r.ops = nil
	r.readExpr()
	needRest()
	// Its size alone may be wrong by now.
	if code := names.Check(r.ops); code != api.OK {
		r.giveUp(first, code)
	}
	return r.ops
}

// lay lays an operation behind its parts.
func (r *reader) lay(op api.Op) { r.ops = append(r.ops, op) }

func (r *reader) readExpr() {
	switch {
	case r.take("if"):
		r.readIf()
	case r.take("try"):
		r.readTry()
	case r.take("let"):
		r.readLet()
	case r.take("wait"):
		r.readWait()
	default:
		r.readComparison()
	}
}

func (r *reader) readIf() {
	r.readExpr()
	r.need("then")
	r.readExpr()
	r.need("else")
	r.readExpr()
	r.lay(api.Op{Kind: api.XIf, N: 3})
}

func (r *reader) readTry() {
	r.readExpr()
	r.need("else")
	r.readExpr()
	r.lay(api.Op{Kind: api.XTry, N: 2})
}

func (r *reader) readLet() {
	local := r.needLocal().Text
	r.need("=")
	r.readExpr()
	r.need("in")
	// Bound in the second part alone.
	outer := r.locals
	r.locals = append(r.locals, local)
	r.readExpr()
	r.locals = outer
	r.lay(api.Op{Kind: api.XLet, N: 2, Text: local})
}

func (r *reader) readWait() {
	gate := r.needKind(api.TokName).Text
	r.need(".")
	r.readExpr()
	r.lay(api.Op{Kind: api.XGate, N: 1, Text: gate})
}

func (r *reader) readComparison() {
	r.readSum()
	// No loop: comparisons do not stand in a row.
	if kind := r.takeKind(rankComparison); kind != 0 {
		r.readSum()
		r.lay(api.Op{Kind: kind, N: 2})
	}
}

func (r *reader) readSum() { r.readRow(rankSum, r.readProduct) }

func (r *reader) readProduct() { r.readRow(rankProduct, r.readPrimary) }

// readRow reads parts by that function, as long as marks of that rank stand between them, from the left.
func (r *reader) readRow(rank int, readPart func()) {
	readPart()
	for kind := r.takeKind(rank); kind != 0; kind = r.takeKind(rank) {
		readPart()
		r.lay(api.Op{Kind: kind, N: 2})
	}
}

// takeKind goes past the word of an operation of that rank, if one comes next, and tells the operation's kind; else 0.
func (r *reader) takeKind(rank int) int {
	for kind := range rows {
		if rows[kind].rank == rank && r.take(rows[kind].word) {
			return kind
		}
	}
	return 0
}

func (r *reader) readPrimary() {
	switch r.next().Kind {
	case api.TokInt:
		r.lay(api.Op{Kind: api.XInt, Int: r.needKind(api.TokInt).Int})
	case api.TokText:
		r.lay(api.Op{Kind: api.XText, Text: r.needKind(api.TokText).Text})
	case api.TokName:
		r.lay(api.Op{Kind: api.XName, Text: r.needKind(api.TokName).Text})
	case api.TokLocal:
		r.lay(api.Op{Kind: api.XLocal, Text: r.needBound().Text})
	default:
		r.readMarked()
	}
}

// readMarked reads a primary that begins with a mark or a keyword.
func (r *reader) readMarked() {
	switch {
	case r.take("-"):
		r.lay(api.Op{Kind: api.XInt, Int: -r.needAboveNought().Int})
	case r.take("("):
		r.readExpr()
		r.need(")")
	case r.take("["):
		r.readList()
	default:
		r.readCall()
	}
}

func (r *reader) readList() {
	parts := 0
	if !r.isNext("]") {
		r.readEach(func() {
			r.readExpr()
			parts++
		})
	}
	r.need("]")
	r.lay(api.Op{Kind: api.XList, N: parts})
}

// readEach reads parts by that function, with a comma between two.
func (r *reader) readEach(readPart func()) {
	readPart()
	for r.take(",") {
		readPart()
	}
}

func (r *reader) readCall() {
	kind := r.takeKind(rankPrimary)
	if kind == 0 {
		r.refuse()
	}
	r.need("(")
	r.readExpr()
	parts := 1
	if kind == api.XItem {
		r.need(",")
		r.readExpr()
		parts++
	}
	r.need(")")
	r.lay(api.Op{Kind: kind, N: parts})
}

func (r *reader) needAboveNought() api.Token {
	t := r.needKind(api.TokInt)
	if t.Int == 0 {
		r.giveUp(t.At, api.ErrSyntax)
	}
	return t
}

// needLocal asks for a local whose word is a name: tokens may have a keyword there.
func (r *reader) needLocal() api.Token {
	t := r.needKind(api.TokLocal)
	if !lex.IsName(t.Text) {
		r.giveUp(t.At, api.ErrSyntax)
	}
	return t
}

func (r *reader) needBound() api.Token {
	t := r.needLocal()
	if !slices.Contains(r.locals, t.Text) {
		r.giveUp(t.At, api.ErrLocal)
	}
	return t
}
