package lex

import (
	"strconv"

	"onceweb/api"
)

// Lay is the tokens' text: each as it is written, with one blank between any two.
func Lay(l []api.Token) (string, api.Errno) {
	if len(l) > MaxTokens {
		return "", api.ErrLong
	}
	for _, t := range l {
		if !isTold(t) {
			return "", api.ErrShape
		}
	}
	var b []byte
	for i, t := range l {
		if i > 0 {
			b = append(b, ' ')
		}
		b = appendToken(b, t)
	}
	return string(b), api.OK
}

// isTold tells whether t, but for its place, is such as Tokens tells.
func isTold(t api.Token) bool {
	if t.Kind == api.TokInt {
		return t.Text == "" && t.Int >= 0 && t.Int <= api.MaxInt
	}
	return t.Int == 0 && isTextOf(t.Kind, t.Text)
}

// isTextOf tells whether a token of that kind, which is no number's, may have that text.
func isTextOf(kind int, text string) bool {
	switch kind {
	case api.TokName:
		return IsName(text)
	case api.TokKey:
		return IsKey(text)
	case api.TokLocal:
		return isWord(text)
	case api.TokText:
		return len(text) <= api.MaxWord
	case api.TokMark:
		return isMark(text)
	}
	return false
}

// appendToken lays t behind b as it is written.
func appendToken(b []byte, t api.Token) []byte {
	switch t.Kind {
	case api.TokInt:
		b = strconv.AppendInt(b, int64(t.Int), 10)
	case api.TokText:
		b = appendQuoted(b, t.Text)
	case api.TokLocal:
		b = append(b, '$')
		fallthrough
	default:
		b = append(b, t.Text...)
	}
	return b
}
