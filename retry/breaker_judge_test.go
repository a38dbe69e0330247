package retry_test

import (
	"fmt"
	"math"
	"math/rand/v2"
	"slices"
	"testing"

	"onceweb/api"
	"onceweb/retry"
)

// event is a call that was not refused: an Ask (with the number of the try that was let, or 0), or a Tell.
type event struct {
	tell, fine bool
	try, at    int
}

// tale is a breaker as the calls that were not refused: all that is asked of it is read out of these, by the chapter's words.
type tale struct {
	limit, rest int
	events      []event
}

// spell is how long a state lasts: from an event on.
type spell struct {
	state, from, until int
}

// letAt is which event let a try.
func (s *tale) letAt(try int) int {
	return slices.IndexFunc(s.events, func(e event) bool { return !e.tell && e.try == try })
}

// row is how many of the tries that were let and told within events were told last, and were failures.
func (s *tale) row(from, to int) int {
	n := 0
	for i := from; i < to; i++ {
		e := s.events[i]
		if e.tell && s.letAt(e.try) >= from {
			n++
			if e.fine {
				n = 0
			}
		}
	}
	return n
}

// next is the spell that begins with, or behind, an event, if one does.
func (s *tale) next(now spell, i int) (spell, bool) {
	e := s.events[i]
	if !e.tell {
		return spell{state: api.BreakHalf, from: i}, now.state == api.BreakOpen && e.try > 0
	}
	if s.letAt(e.try) < now.from {
		return spell{}, false
	}
	open := spell{api.BreakOpen, i + 1, min(e.at+s.rest, api.MaxTick)}
	switch {
	case now.state == api.BreakHalf && e.fine:
		return spell{state: api.BreakClosed, from: i + 1}, true
	case now.state == api.BreakHalf:
		return open, true
	}
	return open, s.row(now.from, i+1) == s.limit
}

func (s *tale) now() spell {
	now := spell{state: api.BreakClosed}
	for i := range s.events {
		if next, any := s.next(now, i); any {
			now = next
		}
	}
	return now
}

func (s *tale) State() (int, int, int) {
	now := s.now()
	if now.state == api.BreakClosed {
		return now.state, s.row(now.from, len(s.events)), 0
	}
	return now.state, 0, now.until
}

func (s *tale) lastTime() int {
	last := 0
	for _, e := range s.events {
		last = max(last, e.at)
	}
	return last
}

// ways is the tries that are on their way.
func (s *tale) ways() []int {
	var l []int
	for _, e := range s.events {
		switch {
		case e.tell:
			l = slices.DeleteFunc(l, func(try int) bool { return try == e.try })
		case e.try > 0:
			l = append(l, e.try)
		}
	}
	return l
}

// let is how many tries were let.
func (s *tale) let() int {
	n := 0
	for _, e := range s.events {
		if !e.tell && e.try > 0 {
			n++
		}
	}
	return n
}

func (s *tale) rangeOf(at int) api.Errno {
	switch {
	case at < 0 || at > api.MaxTick:
		return api.ErrRange
	case at < s.lastTime():
		return api.ErrState
	}
	return api.OK
}

func (s *tale) Ask(at int) (int, bool, api.Errno) {
	if e := s.rangeOf(at); e != api.OK {
		return 0, false, e
	}
	now, try := s.now(), 0
	if now.state == api.BreakClosed || now.state == api.BreakOpen && at >= now.until {
		try = s.let() + 1
	}
	if try > 0 && len(s.ways()) >= retry.MaxWays {
		return 0, false, api.ErrLong
	}
	s.events = append(s.events, event{try: try, at: at})
	return try, try > 0, api.OK
}

func (s *tale) Tell(try int, fine bool, at int) api.Errno {
	if !slices.Contains(s.ways(), try) {
		return api.ErrNone
	}
	if e := s.rangeOf(at); e != api.OK {
		return e
	}
	s.events = append(s.events, event{true, fine, try, at})
	return api.OK
}

// call is an Ask, or a Tell.
type call struct {
	tell, fine bool
	try, at    int
}

func (c call) of(b breaking) string {
	if c.tell {
		return okText(b.Tell(c.try, c.fine, c.at))
	}
	return asked(b.Ask(c.at))
}

// refuses tells whether the judge would refuse it.
func (s *tale) refuses(c call) bool {
	if c.tell {
		return !slices.Contains(s.ways(), c.try) || s.rangeOf(c.at) != api.OK
	}
	return s.rangeOf(c.at) != api.OK
}

// wantSame makes one call of both, and holds the answers, and the states behind it, against each other.
func wantSame(t *testing.T, b *retry.Breaker, s *tale, c call) {
	t.Helper()
	ahead := len(s.events)
	got, wanted := c.of(b), c.of(s)
	if got != wanted || stateOf(b) != stateOf(s) {
		t.Fatalf("%d %d %+v: %+v: %s, %s; want %s, %s", s.limit, s.rest, s.events[:ahead], c, got, stateOf(b), wanted, stateOf(s))
	}
}

// callsNear are calls at times around the last one, of all tries and of none.
func callsNear(s *tale) []call {
	last, most := s.lastTime(), s.let()
	var l []call
	for at := last - 1; at <= last+2; at++ {
		l = append(l, call{at: at})
		for try := 0; try <= most+1; try++ {
			l = append(l, call{tell: true, try: try, at: at}, call{tell: true, fine: true, try: try, at: at})
		}
	}
	return l
}

// everywhere goes on from what calls came to, so many calls deep: first with all that are refused, then with each of the others.
func everywhere(t *testing.T, limit, rest int, done []call, deep int) {
	t.Helper()
	b, s := newBreaker(t, limit, rest), &tale{limit: limit, rest: rest}
	for _, c := range done {
		wantSame(t, b, s, c)
	}
	for _, c := range callsNear(s) {
		if s.refuses(c) {
			wantSame(t, b, s, c)
		} else if deep > 0 {
			everywhere(t, limit, rest, append(slices.Clone(done), c), deep-1)
		}
	}
	// Had one of these changed anything, what is told of what is still on its way would show it.
	for _, try := range s.ways() {
		wantSame(t, b, s, call{tell: true, try: try, at: s.lastTime()})
		wantSame(t, b, s, call{at: s.lastTime()})
	}
}

func TestBreakerEverywhere(t *testing.T) {
	for limit := 1; limit <= 2; limit++ {
		for rest := 1; rest <= 2; rest++ {
			everywhere(t, limit, rest, nil, 5)
		}
	}
	everywhere(t, 3, 1, nil, 5)
	everywhere(t, 1, api.MaxTick, nil, 3)
}

// someCall is mostly one that goes.
func someCall(r *rand.Rand, s *tale) call {
	last, now, ways := s.lastTime(), s.now(), s.ways()
	at := last + r.IntN(3)*r.IntN(2)
	if now.state == api.BreakOpen && r.IntN(3) > 0 {
		at = max(last, now.until-1+r.IntN(3))
	}
	switch r.IntN(30) {
	case 0:
		at = []int{-1, last - 1, api.MaxTick + 1, math.MinInt, math.MaxInt}[r.IntN(5)]
	case 1:
		at = last + r.IntN(2*s.rest)
	}
	if len(ways) == 0 || r.IntN(5) < 2 {
		return call{at: at}
	}
	try := ways[r.IntN(len(ways))]
	if r.IntN(3) == 0 {
		try = ways[len(ways)-1]
	}
	if r.IntN(15) == 0 {
		try = r.IntN(s.let() + 2)
	}
	return call{true, r.IntN(3) == 0, try, at}
}

func TestBreakerByChance(t *testing.T) {
	r := rand.New(rand.NewPCG(12, 3))
	for range 4000 {
		limit := 1 + r.IntN(1+r.IntN(5))
		rest := []int{1, 2, 3, 10, 1 + r.IntN(1000), api.MaxTick / 8, api.MaxTick}[r.IntN(7)]
		b, s := newBreaker(t, limit, rest), &tale{limit: limit, rest: rest}
		if r.IntN(4) == 0 {
			wantSame(t, b, s, call{at: api.MaxTick - r.IntN(30)})
		}
		for range 50 {
			wantSame(t, b, s, someCall(r, s))
		}
	}
}

// 12.8: told of failures alone, one by one, it lets limit tries, and then one every rest.
func TestOnlyFailures(t *testing.T) {
	for _, limit := range []int{1, 2, 3, 7, 1000} {
		for _, rest := range []int{1, 2, 3, 10, 50} {
			b := newBreaker(t, limit, rest)
			for try := 1; try <= limit; try++ {
				want(t, asked(b.Ask(5)), fmt.Sprint(try), "Ask", limit, rest)
				b.Tell(try, false, 5)
			}
			try := limit
			for at := 5; at < 5+20*rest; at++ {
				n, lets, e := b.Ask(at)
				if e != api.OK || lets != (at > 5 && (at-5)%rest == 0) {
					t.Fatalf("%d %d: Ask(%d): %d, %v, %v", limit, rest, at, n, lets, e)
				}
				if lets {
					try++
					want(t, fmt.Sprint(n), fmt.Sprint(try), "the number", limit, rest, at)
					b.Tell(n, false, at)
				}
			}
			want(t, fmt.Sprint(try), fmt.Sprint(limit+19), "tries in all", limit, rest)
		}
	}
}

// 12.8: told that all is fine, it is always closed.
func TestOnlyFine(t *testing.T) {
	r := rand.New(rand.NewPCG(12, 4))
	for range 300 {
		b := newBreaker(t, 1+r.IntN(3), 1+r.IntN(20))
		at, let := 0, 0
		var ways []int
		for range 100 {
			at += r.IntN(3)
			if len(ways) == 0 || r.IntN(2) == 0 {
				let++
				want(t, asked(b.Ask(at)), fmt.Sprint(let), "Ask", at)
				ways = append(ways, let)
			} else {
				i := r.IntN(len(ways))
				want(t, okText(b.Tell(ways[i], true, at)), "ok", "Tell", ways[i], at)
				ways = slices.Delete(ways, i, i+1)
			}
			want(t, stateOf(b), "closed 0 0", "State", at)
		}
	}
}

// TestWhateverBreaker: P1: whatever is given, in each state, each call answers; and as the judge does.
func TestWhateverBreaker(t *testing.T) {
	for _, limit := range numbers {
		for _, rest := range numbers {
			b, e := retry.NewBreaker(limit, rest)
			right := limit >= 1 && limit <= 1000 && rest >= 1 && rest <= api.MaxTick
			if (b != nil) != right || (e == api.OK) != right || !right && e != api.ErrRange {
				t.Errorf("NewBreaker(%d, %d): %v, %v", limit, rest, b, e)
			}
		}
	}
	states := [][]call{nil, {{at: 5}, {at: 5}}, {{at: 5}, {at: 5}, {tell: true, try: 1, at: 5}}, {{at: 5}, {at: 5}, {tell: true, try: 1, at: 5}, {at: 15}}}
	for _, ahead := range states {
		for _, at := range numbers {
			for _, try := range numbers {
				for _, c := range []call{{at: at}, {tell: true, try: try, at: at}, {true, true, try, at}} {
					b, s := newBreaker(t, 1, 10), &tale{limit: 1, rest: 10}
					for _, c := range append(slices.Clone(ahead), c) {
						wantSame(t, b, s, c)
					}
				}
			}
		}
	}
}
