// Package lex is layer 1: the tokens of the language in which providers are written, and texts with quotes as all layers tell them (shared/doc/01-lex.md).
package lex

import (
	"strings"

	"onceweb/api"
)

// MaxTokens is how many tokens a text has at most.
const MaxTokens = 1 << 13

// Tokens tells all tokens of s, in order, or the fault of the first that is wrong.
func Tokens(s string) ([]api.Token, api.Fault) {
	if len(s) > api.MaxText {
		return nil, api.Fault{At: 0, Code: api.ErrLong}
	}
	var l []api.Token
	at := pastBlank(s, 0)
	for at < len(s) {
		// The count comes ahead of the look: one token more is too many, whatever it is.
		if len(l) == MaxTokens {
			return nil, api.Fault{At: at, Code: api.ErrLong}
		}
		t, end, code := readToken(s, at)
		if code != api.OK {
			return nil, api.Fault{At: at, Code: code}
		}
		l = append(l, t)
		at = pastBlank(s, end)
	}
	return l, api.Fault{}
}

// pastBlank is the first place from at on that is not blank.
func pastBlank(s string, at int) int {
	comment := false
blank:
	for at < len(s) {
		switch c := s[at]; {
		case c == '\n':
			comment = false
		case comment, c == '\t', c == '\r', c == ' ':
		case c == '#':
			comment = true
		default:
			break blank
		}
		at++
	}
	return at
}

// readToken is the token whose first byte stands at at, and the place behind it.
func readToken(s string, at int) (api.Token, int, api.Errno) {
	word := at
	switch c := s[at]; {
	case c == '$':
		word++
		fallthrough
	case isSmall(c):
		return readWord(s, at, word)
	case isDigit(c):
		return readNumber(s, at)
	case c == '"':
		return readText(s, at)
	}
	return readMark(s, at)
}

// readWord is the token at at whose word begins at word: behind a dollar sign, if not at at itself.
func readWord(s string, at, word int) (api.Token, int, api.Errno) {
	end := wordEnd(s, word)
	text := s[word:end]
	kind := api.TokName
	switch {
	case text == "":
		return api.Token{}, 0, api.ErrToken
	case len(text) > api.MaxName:
		return api.Token{}, 0, api.ErrLong
	case word > at:
		kind = api.TokLocal
	case IsKey(text):
		kind = api.TokKey
	}
	// A copy, so that a token does not keep the whole text in memory.
	return api.Token{Kind: kind, At: at, Text: strings.Clone(text)}, end, api.OK
}

// readNumber takes all digits, so that 012 is one number that is wrong, not two that are right.
func readNumber(s string, at int) (api.Token, int, api.Errno) {
	end := at
	for end < len(s) && isDigit(s[end]) {
		end++
	}
	n, ok := Number(s[at:end])
	if !ok {
		return api.Token{}, 0, api.ErrNumber
	}
	return api.Token{Kind: api.TokInt, At: at, Int: n}, end, api.OK
}

// readText reads the text to its end ahead of measuring it: its form comes ahead of its length.
func readText(s string, at int) (api.Token, int, api.Errno) {
	text, end, ok := quotedAt(s, at)
	if !ok {
		return api.Token{}, 0, api.ErrQuote
	}
	if len(text) > api.MaxWord {
		return api.Token{}, 0, api.ErrLong
	}
	return api.Token{Kind: api.TokText, At: at, Text: text}, end, api.OK
}

// readMark is told last of all: what begins no mark either begins no token.
func readMark(s string, at int) (api.Token, int, api.Errno) {
	for _, m := range marks {
		if strings.HasPrefix(s[at:], m) {
			return api.Token{Kind: api.TokMark, At: at, Text: m}, at + len(m), api.OK
		}
	}
	return api.Token{}, 0, api.ErrToken
}
