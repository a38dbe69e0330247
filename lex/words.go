package lex

import "onceweb/api"

// marks has == ahead of =, since the first that fits is taken and must be the longest.
var marks = [...]string{"==", "(", ")", "[", "]", ",", ";", ".", "=", "+", "-", "*", "&", "<"}

// keys are the words that are no names.
var keys = [...]string{
	"cell", "again", "tries", "base", "factor", "cap", "close", "fine", "fail", "panic",
	"if", "then", "else", "try", "wait", "let", "in", "item", "size",
}

// IsName tells whether s is a name, of at most MaxName bytes, and no keyword.
func IsName(s string) bool { return isWord(s) && !IsKey(s) }

// IsKey tells whether s is a keyword.
func IsKey(s string) bool {
	for _, k := range keys {
		if s == k {
			return true
		}
	}
	return false
}

// Number is the whole number from 0 to api.MaxInt that s is, in its one form.
func Number(s string) (int, bool) {
	if s == "" || s[0] == '0' && len(s) > 1 {
		return 0, false
	}
	n := 0
	for i := range len(s) {
		if !isDigit(s[i]) {
			return 0, false
		}
		n = 10*n + int(s[i]-'0')
		// Left at once, so that digits without end do not wrap n round.
		if n > api.MaxInt {
			return 0, false
		}
	}
	return n, true
}

// isMark tells whether s is one of the marks.
func isMark(s string) bool {
	for _, m := range marks {
		if s == m {
			return true
		}
	}
	return false
}

// isWord tells whether s is a word that a local may have: a keyword too.
func isWord(s string) bool {
	return s != "" && len(s) <= api.MaxName && wordEnd(s, 0) == len(s)
}

// wordEnd is the place behind the word that begins at at; at itself, if none does.
func wordEnd(s string, at int) int {
	end := at
word:
	for end < len(s) {
		switch c := s[end]; {
		case isSmall(c):
		case end > at && (isDigit(c) || c == '_'):
		default:
			break word
		}
		end++
	}
	return end
}

func isSmall(c byte) bool { return c >= 'a' && c <= 'z' }

func isDigit(c byte) bool { return c >= '0' && c <= '9' }
