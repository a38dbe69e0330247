package value

import (
	"strconv"

	"onceweb/api"
	"onceweb/lex"
)

// Print is v's text.
func Print(v api.Value) (string, api.Errno) {
	if e := Check(v); e != api.OK {
		return "", e
	}
	return textOf(v), api.OK
}

// textOf is the text of v, which is right.
func textOf(v api.Value) string {
	var b []byte
	for at, opens := range lay(v).opens {
		a := v[at]
		// Behind the first one all that is not the end of a list with members begins a member.
		if at > 0 && a.N == 0 {
			b = append(b, ", "...)
		}
		for range opens {
			b = append(b, '[')
		}
		switch a.Kind {
		case api.VInt:
			b = strconv.AppendInt(b, int64(a.Int), 10)
		case api.VText:
			b = append(b, lex.Quote(a.Text)...)
		case api.VList:
			b = append(b, ']')
		}
	}
	return string(b)
}

// Parse is the value whose text s is.
func Parse(s string) (api.Value, api.Errno) {
	if len(s) > api.MaxText {
		return nil, api.ErrLong
	}
	tokens, f := lex.Tokens(s)
	if f.Code != api.OK {
		return nil, api.ErrForm
	}
	v := read(tokens)
	// A value has one text alone, and so what was read too freely is found here.
	if Check(v) != api.OK || textOf(v) != s {
		return nil, api.ErrForm
	}
	return v, api.OK
}

// read is the value that those tokens tell, if they tell one: what can not stand in a value's text is passed over, and commas are.
func read(tokens []api.Token) api.Value {
	r := reader{members: []int{0}, sign: 1}
	for _, t := range tokens {
		switch t.Kind {
		case api.TokInt:
			r.add(api.Atom{Kind: api.VInt, Int: r.sign * t.Int})
			r.sign = 1
		case api.TokText:
			r.add(api.Atom{Kind: api.VText, Text: t.Text})
		case api.TokMark:
			r.mark(t.Text)
		}
	}
	return r.value
}

// reader lays down atoms, each behind its members.
type reader struct {
	value   api.Value
	members []int // a stack: of each list that has not ended how many it has so far; the first counts what is in none
	sign    int   // of the next number
}

// add lays down a, which ends a member of the list around it.
func (r *reader) add(a api.Atom) {
	r.value = append(r.value, a)
	r.members[len(r.members)-1]++
}

func (r *reader) mark(text string) {
	last := len(r.members) - 1
	switch {
	case text == "-":
		r.sign = -1
	case text == "[":
		r.members = append(r.members, 0)
	case text == "]" && last > 0:
		n := r.members[last]
		r.members = r.members[:last]
		r.add(api.Atom{Kind: api.VList, N: n})
	}
}
