package token

import "onceweb/api"

// isName goes by the document's Words alone: a keyword of the provider language may be a token's name, unlike a cell's.
func isName(s string) bool {
	if s == "" || len(s) > api.MaxName || !isSmall(s[0]) {
		return false
	}
	for i := range len(s) {
		if !isSmall(s[i]) && !isDigit(s[i]) && s[i] != '_' {
			return false
		}
	}
	return true
}

func isSmall(c byte) bool { return c >= 'a' && c <= 'z' }

func isDigit(c byte) bool { return c >= '0' && c <= '9' }
