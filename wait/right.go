package wait

import "onceweb/api"

// maxKind is the last kind of waiters.
const maxKind = 7

// check tells what is wrong with a waiter.
func check(w api.Waiter) api.Errno {
	switch {
	case !isTask(w.Task):
		return api.ErrRange
	case len(w.Key) > api.MaxWord:
		return api.ErrLong
	case !isToken(w.Token):
		return api.ErrForm
	case w.Kind < 0 || w.Kind > maxKind:
		return api.ErrRange
	}
	return api.OK
}

func isTask(task int) bool { return task >= 0 && task < api.MaxTasks }

// isToken tells whether a text is a name, or empty. It goes by the document's Words alone: a keyword of the provider language may be a token's name.
func isToken(s string) bool {
	if len(s) > api.MaxName {
		return false
	}
	for i := range len(s) {
		if !isSmall(s[i]) && (i == 0 || !isDigit(s[i]) && s[i] != '_') {
			return false
		}
	}
	return true
}

func isSmall(c byte) bool { return c >= 'a' && c <= 'z' }

func isDigit(c byte) bool { return c >= '0' && c <= '9' }
