package retry

import "onceweb/api"

// maxLimit is how many failures in a row open a breaker at most.
const maxLimit = 1000

// Breaker lets nothing through for a while, when too much has failed.
type Breaker struct {
	limit, rest int
	state       int
	row         int         // failures in a row; 0, if it is not closed
	until       int         // 0, if it is not open
	turns       int         // how often the state has changed
	last        int         // the last time told
	tries       int         // how many were let
	ways        map[int]int // of each try on its way: how often the state had changed when it was let
}

// NewBreaker is a breaker that is closed.
func NewBreaker(limit, rest int) (*Breaker, api.Errno) {
	if !isWithin(limit, 1, maxLimit) || !isWithin(rest, 1, api.MaxTick) {
		return nil, api.ErrRange
	}
	return &Breaker{limit: limit, rest: rest, state: api.BreakClosed, ways: map[int]int{}}, api.OK
}

// Ask tells whether a try may go, and its number.
func (b *Breaker) Ask(at int) (int, bool, api.Errno) {
	if e := b.checkTime(at); e != api.OK {
		return 0, false, e
	}
	lets := b.lets(at)
	if lets && len(b.ways) == MaxWays {
		return 0, false, api.ErrLong
	}
	b.last = at
	if !lets {
		return 0, false, api.OK
	}
	if b.state == api.BreakOpen {
		b.turn(api.BreakHalf)
	}
	b.tries++
	b.ways[b.tries] = b.turns
	return b.tries, true, api.OK
}

// Tell tells what came of a try.
func (b *Breaker) Tell(try int, fine bool, at int) api.Errno {
	turn, ok := b.ways[try]
	if !ok {
		return api.ErrNone
	}
	if e := b.checkTime(at); e != api.OK {
		return e
	}
	b.last = at
	delete(b.ways, try)
	if turn == b.turns {
		b.heed(fine)
	}
	return api.OK
}

// State is a breaker's state, the failures in a row, and until when it is open.
func (b *Breaker) State() (int, int, int) { return b.state, b.row, b.until }

// checkTime tells what is wrong with a time that it is told of: time does not go back.
func (b *Breaker) checkTime(at int) api.Errno {
	switch {
	case !isTime(at):
		return api.ErrRange
	case at < b.last:
		return api.ErrState
	}
	return api.OK
}

// lets tells whether it would let a try at that time.
func (b *Breaker) lets(at int) bool {
	return b.state == api.BreakClosed || b.state == api.BreakOpen && at >= b.until
}

// heed does what is due behind a try of the present state, which was told at the last time.
func (b *Breaker) heed(fine bool) {
	closed := b.state == api.BreakClosed
	switch {
	case fine && closed:
		b.row = 0
	case fine:
		b.turn(api.BreakClosed)
	case closed && b.row+1 < b.limit:
		b.row++
	default:
		b.turn(api.BreakOpen)
		b.until = min(b.last+b.rest, api.MaxTick)
	}
}

// turn begins a new state, of which no try is yet.
func (b *Breaker) turn(state int) {
	b.state, b.row, b.until = state, 0, 0
	b.turns++
}
