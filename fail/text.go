package fail

import (
	"strings"

	"onceweb/api"
	"onceweb/lex"
)

// Print is f's text.
func Print(f api.Fail) (string, api.Errno) {
	if e := Check(f); e != api.OK {
		return "", e
	}
	p := printer{fail: f, wholes: wholesOf(f)}
	p.tell(len(f) - 1)
	return string(p.told), api.OK
}

type printer struct {
	fail   api.Fail
	wholes []whole
	told   []byte
}

// tell goes from the whole down, so that each byte is laid down once, however deep it lies.
func (p *printer) tell(at int) {
	c := p.fail[at]
	k := rows[c.Kind]
	p.lay(k.word)
	switch k.text {
	case textNone:
	case textAny:
		p.lay(" ", lex.Quote(c.Text))
	default:
		p.lay(" ", c.Text)
	}
	if c.N == 0 {
		return
	}
	p.lay(k.open)
	for i, part := range p.wholes[at].parts {
		if i > 0 {
			p.lay(k.between)
		}
		p.tell(part)
	}
	p.lay(k.end)
}

func (p *printer) lay(texts ...string) {
	for _, s := range texts {
		p.told = append(p.told, s...)
	}
}

// Parse is the failure whose text s is.
func Parse(s string) (f api.Fail, e api.Errno) {
	if len(s) > api.MaxText {
		return nil, api.ErrLong
	}
	defer func() {
		if recover() != nil {
			f, e = nil, api.ErrForm
		}
	}()
	r := reader{rest: s}
	r.read()
	if r.rest != "" {
		r.giveUp()
	}
	return r.cracks, api.OK
}

// reader reads a failure from the front of rest on; each crack is laid down behind its parts.
type reader struct {
	rest   string
	begun  int
	cracks api.Fail
}

// giveUp leaves all reads at once, however deep they lie: Parse recovers it.
func (r *reader) giveUp() { panic(api.ErrForm) }

func (r *reader) read() {
	// Counted where a crack begins, so that the reads lie no deeper than a failure may.
	r.begun++
	kind := kindOf(r.takeWord())
	if kind == 0 || r.begun > api.MaxCracks {
		r.giveUp()
	}
	text := r.readText(kind)
	parts := r.readParts(kind)
	r.cracks = append(r.cracks, api.Crack{Kind: kind, N: parts, Text: text})
}

func (r *reader) readText(kind int) string {
	text := ""
	switch rows[kind].text {
	case textNone:
	case textAny:
		r.need(" ")
		text = r.takeQuoted()
	default:
		r.need(" ")
		text = r.takeWord()
	}
	if !isTextOf(kind, text) {
		r.giveUp()
	}
	return text
}

// readParts reads the parts of a crack of that kind, and tells how many they are.
func (r *reader) readParts(kind int) int {
	k := rows[kind]
	if k.most == 0 || k.least == 0 && !strings.HasPrefix(r.rest, k.open) {
		return 0
	}
	r.need(k.open)
	r.read()
	parts := 1
	for parts < k.most && r.take(k.between) {
		r.read()
		parts++
	}
	r.need(k.end)
	return parts
}

// take goes past s, if rest begins with it.
func (r *reader) take(s string) bool {
	rest, ok := strings.CutPrefix(r.rest, s)
	r.rest = rest
	return ok
}

func (r *reader) need(s string) {
	if !r.take(s) {
		r.giveUp()
	}
}

// cut takes as many bytes; a copy, so that a failure does not keep the whole text in memory.
func (r *reader) cut(size int) string {
	s := strings.Clone(r.rest[:size])
	r.rest = r.rest[size:]
	return s
}

// takeWord takes all bytes that a word or a name may have; whether they are one, is looked at by whoever asked.
func (r *reader) takeWord() string {
	size := 0
	for size < len(r.rest) && isWordByte(r.rest[size]) {
		size++
	}
	return r.cut(size)
}

func isWordByte(c byte) bool {
	return c >= 'a' && c <= 'z' || c >= '0' && c <= '9' || c == '_'
}

// takeQuoted takes a quoted text, and tells what it stands for.
func (r *reader) takeQuoted() string {
	text, ok := lex.Unquote(r.cut(quotedSize(r.rest)))
	if !ok {
		r.giveUp()
	}
	return text
}

// quotedSize is how many bytes at the front of s are its quoted text, if it begins with one.
func quotedSize(s string) int {
	for i := 1; i < len(s); i++ {
		switch s[i] {
		case '\\':
			i++
		case '"':
			return i + 1
		}
	}
	return len(s)
}
