package lex

import "strings"

// hexDigits are the digits to the base 16 in the one form that they have here.
const hexDigits = "0123456789abcdef"

// Quote is s as a quoted text.
func Quote(s string) string {
	return string(appendQuoted(make([]byte, 0, len(s)+2), s))
}

// appendQuoted lays s, quoted, behind b.
func appendQuoted(b []byte, s string) []byte {
	b = append(b, '"')
	for i := range len(s) {
		switch c := s[i]; {
		case c == '"', c == '\\':
			b = append(b, '\\')
			fallthrough
		case isPlain(c):
			b = append(b, c)
		case c == '\n':
			b = append(b, '\\', 'n')
		default:
			b = append(b, '\\', 'x', hexDigits[c>>4], hexDigits[c&15])
		}
	}
	return append(b, '"')
}

// Unquote is what the quoted text s stands for, if s is one and nothing else.
func Unquote(s string) (string, bool) {
	if s == "" || s[0] != '"' {
		return "", false
	}
	text, end, ok := quotedAt(s, 0)
	if !ok || end != len(s) {
		return "", false
	}
	return text, true
}

// quotedAt is what the quoted text whose first quote stands at at stands for, and the place behind its last quote; false, if it does not end, or is not in its one form.
func quotedAt(s string, at int) (string, int, bool) {
	var b []byte
	end := at + 1
text:
	for end < len(s) {
		switch c, size := quotedByte(s[end:]); {
		case size > 0:
			b = append(b, c)
			end += size
		case s[end] == '"':
			return string(b), end + 1, true
		default:
			break text
		}
	}
	return "", 0, false
}

// quotedByte is the byte that the beginning of s stands for within quotes, and how many bytes say so; 0, if none does in its one form.
func quotedByte(s string) (byte, int) {
	switch {
	case isPlain(s[0]):
		return s[0], 1
	case s[0] != '\\' || len(s) < 2:
		return 0, 0
	}
	switch c := s[1]; c {
	case '"', '\\':
		return c, 2
	case 'n':
		return '\n', 2
	case 'x':
		return hexByte(s)
	}
	return 0, 0
}

// hexByte is quotedByte of what begins with a backslash and x; a byte that is written shorter has no such form.
func hexByte(s string) (byte, int) {
	if len(s) < 4 {
		return 0, 0
	}
	high, low := strings.IndexByte(hexDigits, s[2]), strings.IndexByte(hexDigits, s[3])
	if high < 0 || low < 0 {
		return 0, 0
	}
	c := byte(high<<4 | low)
	if isPlain(c) || c == '"' || c == '\\' || c == '\n' {
		return 0, 0
	}
	return c, 4
}

// isPlain tells whether c stands for itself within quotes.
func isPlain(c byte) bool { return c >= 32 && c <= 126 && c != '"' && c != '\\' }
