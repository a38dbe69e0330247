package wait

import "onceweb/api"

// waiter is one who waits, and how many had joined ahead of it: by this alone are waiters of several keys in order.
type waiter struct {
	api.Waiter
	came int
}

// plain is waiters as they are told.
func plain(l []waiter) []api.Waiter {
	told := make([]api.Waiter, len(l))
	for i, w := range l {
		told[i] = w.Waiter
	}
	return told
}

// take takes whoever goes, by their places in a key's queue or by what they are, out of it; it tells them, in order.
func (r *Room) take(key string, goes func(place int, w waiter) bool) []waiter {
	var gone, stay []waiter
	for place, w := range r.queues[key] {
		if goes(place, w) {
			gone = append(gone, w)
		} else {
			stay = append(stay, w)
		}
	}
	if len(stay) == 0 {
		delete(r.queues, key)
	} else {
		r.queues[key] = stay
	}
	return gone
}
