package grammar

import (
	"slices"

	"onceweb/api"
	"onceweb/lex"
	"onceweb/names"
)

// readText is what read reads of s; or its zero value, and the fault that read gave up with.
func readText[T any](s string, read func(r *reader) T) (told T, fault api.Fault) {
	tokens, fault := lex.Tokens(s)
	if fault.Code != api.OK {
		return told, fault
	}
	defer func() {
		if reason := recover(); reason != nil {
			fault = reason.(api.Fault)
		}
	}()
	return read(&reader{rest: tokens, end: len(s)}), api.Fault{}
}

// reader reads tokens from the front of rest on; each operation is laid down behind its parts.
type reader struct {
	rest   []api.Token
	end    int // the place behind the text
	ops    api.Expr
	locals []string // those that are bound where it reads
}

// giveUp leaves all reads at once, however deep they lie: readText recovers it.
func (r *reader) giveUp(at int, code api.Errno) { panic(api.Fault{At: at, Code: code}) }

// refuse gives up since what comes next can not stand there.
func (r *reader) refuse() { r.giveUp(r.next().At, api.ErrSyntax) }

// next is the token that comes next; behind the last one, a token of no kind at the text's end.
func (r *reader) next() api.Token {
	if len(r.rest) == 0 {
		return api.Token{At: r.end}
	}
	return r.rest[0]
}

// isNext tells whether the keyword or the mark s comes next.
func (r *reader) isNext(s string) bool {
	t := r.next()
	return (t.Kind == api.TokKey || t.Kind == api.TokMark) && t.Text == s
}

// take goes past the keyword or the mark s, if it comes next.
func (r *reader) take(s string) bool {
	if !r.isNext(s) {
		return false
	}
	r.rest = r.rest[1:]
	return true
}

func (r *reader) need(s string) {
	if !r.take(s) {
		r.refuse()
	}
}

func (r *reader) needKind(kind int) api.Token {
	t := r.next()
	if t.Kind != kind {
		r.refuse()
	}
	r.rest = r.rest[1:]
	return t
}

func (r *reader) needEnd() {
	if len(r.rest) > 0 {
		r.refuse()
	}
}

func (r *reader) readLoneExpr() api.Expr { return r.readWhole(r.needEnd) }

func (r *reader) readLoneProvider() api.Provider {
	p := r.readProvider(nil)
	r.needEnd()
	return p
}

func (r *reader) readProviders() []api.Provider {
	var l []api.Provider
	for len(r.rest) > 0 {
		if len(l) == api.MaxCells && r.isNext("cell") {
			r.giveUp(r.next().At, api.ErrLong)
		}
		l = append(l, r.readProvider(l))
	}
	return l
}

// readProvider reads a provider that has no name of those ahead.
func (r *reader) readProvider(ahead []api.Provider) api.Provider {
	r.need("cell")
	p := api.Provider{Name: r.readNewName(ahead)}
	r.need("=")
	p.Expr = r.readWhole(r.needTail)
	p.Again = r.take("again")
	tries := r.next().At
	if r.isNext("tries") {
		p.Policy = r.readPolicy()
	}
	if r.take("close") {
		p.Closer = r.readCloser()
	}
	r.need(";")
	// All but the policy is right by now.
	if code := names.CheckProvider(p); code != api.OK {
		r.giveUp(tries, code)
	}
	return p
}

func (r *reader) readNewName(ahead []api.Provider) string {
	t := r.needKind(api.TokName)
	if slices.ContainsFunc(ahead, func(p api.Provider) bool { return p.Name == t.Text }) {
		r.giveUp(t.At, api.ErrTwice)
	}
	return t.Text
}

// needTail asks for what may stand behind a provider's expression.
func (r *reader) needTail() {
	if !r.isNext("again") && !r.isNext("tries") && !r.isNext("close") && !r.isNext(";") {
		r.refuse()
	}
}

func (r *reader) readPolicy() api.Policy {
	return api.Policy{Tries: r.readNumber("tries"), Base: r.readNumber("base"), Factor: r.readNumber("factor"), Cap: r.readNumber("cap")}
}

// readNumber reads a number behind that word.
func (r *reader) readNumber(word string) int {
	r.need(word)
	return r.needKind(api.TokInt).Int
}

func (r *reader) readCloser() api.Closer {
	switch {
	case r.take("fail"):
		return api.Closer{Kind: api.CloseFail, Text: r.needKind(api.TokText).Text}
	case r.take("panic"):
		return api.Closer{Kind: api.ClosePanic, Text: r.needKind(api.TokText).Text}
	}
	r.need("fine")
	return api.Closer{Kind: api.CloseFine}
}
