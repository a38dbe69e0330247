package code

import (
	"strconv"
	"strings"

	"onceweb/api"
	"onceweb/lex"
	"onceweb/value"
)

// maxText is how many bytes a text has at most that is read.
const maxText = 4 * api.MaxText

// Print is c's text.
func Print(c api.Code) (string, api.Errno) {
	if e := Check(c); e != api.OK {
		return "", e
	}
	var b []byte
	for _, in := range c {
		b = append(append(b, lineOf(in)...), '\n')
	}
	return string(b), api.OK
}

// lineOf is the text of in, which is well formed.
func lineOf(in api.Instr) string {
	word := forms[in.Op].word
	switch forms[in.Op].tail {
	case tailNumber, tailPlace:
		return word + " " + strconv.Itoa(in.A)
	case tailKind:
		return word + " " + value.Word(in.A)
	case tailQuoted:
		return word + " " + lex.Quote(in.Text)
	case tailName:
		return word + " " + in.Text
	}
	return word
}

// Parse is the code whose text s is.
func Parse(s string) (api.Code, api.Fault) {
	if len(s) > maxText {
		return nil, api.Fault{Code: api.ErrLong}
	}
	var c api.Code
	for at := 0; s != ""; at++ {
		// The count comes ahead of the look: one line more is too many, whatever stands there.
		if at == MaxCode {
			return nil, api.Fault{At: at, Code: api.ErrLong}
		}
		line, rest, ended := strings.Cut(s, "\n")
		in, ok := readLine(line, at)
		if !ok || !ended {
			return nil, api.Fault{At: at, Code: api.ErrForm}
		}
		c = append(c, in)
		s = rest
	}
	if e := Check(c); e != api.OK {
		return nil, api.Fault{Code: e}
	}
	return c, api.Fault{}
}

// readLine is the instruction at that place whose text the line is; false, if there is none that is well formed.
func readLine(line string, at int) (api.Instr, bool) {
	word, tail, _ := strings.Cut(line, " ")
	in := api.Instr{Op: opOf(word)}
	switch forms[in.Op].tail {
	case tailNumber, tailPlace:
		in.A = readNumber(tail)
	case tailKind:
		in.A = kindOf(tail)
	case tailQuoted:
		in.Text, _ = lex.Unquote(tail)
	case tailName:
		// A copy, so that a code does not keep the whole text in memory.
		in.Text = strings.Clone(tail)
	}
	// How many lines follow, is not known yet. An instruction has one text alone, and so what was read too freely is found here.
	if !isInstr(in, at, api.MaxInt+1) || lineOf(in) != line {
		return api.Instr{}, false
	}
	return in, true
}

// opOf is the op that is told by that word; 0, if none is.
func opOf(word string) int {
	for op := opInt; op <= opPast; op++ {
		if forms[op].word == word {
			return op
		}
	}
	return 0
}

// readNumber is the number that s is; 0, if it is none, or too great.
func readNumber(s string) int {
	digits, below := strings.CutPrefix(s, "-")
	n, _ := lex.Number(digits)
	if below {
		return -n
	}
	return n
}

// kindOf is the kind of the operation that CDo may do and that is told by that word; 0, if there is none.
func kindOf(word string) int {
	for kind := forms[opDo].least; kind <= forms[opDo].most; kind++ {
		if value.Word(kind) == word {
			return kind
		}
	}
	return 0
}
