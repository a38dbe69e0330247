package clock_test

import (
	"cmp"
	"math/rand"
	"slices"
	"testing"

	"onceweb/api"
	"onceweb/clock"
)

// plain is a clock without a heap: it goes tick by tick and looks at every timer that was ever set.
type plain struct {
	now    int
	timers []api.Timer // by their numbers; one that is no longer pending has the number 0
}

func (p *plain) count() int {
	n := 0
	for _, t := range p.timers {
		if t.Number > 0 {
			n++
		}
	}
	return n
}

func (p *plain) set(at, every int, right bool) (int, api.Errno) {
	if !right || at < p.now || at > api.MaxTick {
		return 0, api.ErrRange
	}
	if p.count() == clock.MaxTimers {
		return 0, api.ErrLong
	}
	p.timers = append(p.timers, timer(len(p.timers)+1, at, every))
	return len(p.timers), api.OK
}

func (p *plain) has(number int) bool {
	return number > 0 && number <= len(p.timers) && p.timers[number-1].Number > 0
}

func (p *plain) stop(number int) api.Errno {
	if !p.has(number) {
		return api.ErrNone
	}
	p.timers[number-1] = api.Timer{}
	return api.OK
}

func (p *plain) move(number, at int) api.Errno {
	if !p.has(number) {
		return api.ErrNone
	}
	if at < p.now || at > api.MaxTick {
		return api.ErrRange
	}
	p.timers[number-1].At = at
	return api.OK
}

func (p *plain) tick(now int) []api.Firing {
	var told []api.Firing
	for i := range p.timers {
		t := &p.timers[i]
		if t.Number == 0 || t.At != now {
			continue
		}
		told = append(told, firing(t.Number, now))
		if t.At += t.Every; t.Every == 0 || t.At > api.MaxTick {
			*t = api.Timer{}
		}
	}
	return told
}

func (p *plain) advance(ticks int) ([]api.Firing, api.Errno) {
	if ticks < 0 || ticks > api.MaxTick-p.now {
		return nil, api.ErrRange
	}
	next := plain{timers: slices.Clone(p.timers)}
	var told []api.Firing
	for i := range ticks + 1 {
		told = append(told, next.tick(p.now+i)...)
	}
	if len(told) > api.MaxItems {
		return nil, api.ErrLong
	}
	next.now = p.now + ticks
	*p = next
	return told, api.OK
}

func (p *plain) pending() []api.Timer {
	var l []api.Timer
	for _, t := range p.timers {
		if t.Number > 0 {
			l = append(l, t)
		}
	}
	slices.SortStableFunc(l, func(a, b api.Timer) int { return cmp.Compare(a.At, b.At) })
	return l
}

// pair is a clock and a plain one that were told the same from the beginning on.
type pair struct {
	c *clock.Clock
	p *plain
}

// do makes one call of both, by chance, and holds the answers against each other.
func (d *pair) do(t *testing.T, r *rand.Rand) {
	t.Helper()
	near := func() int { return d.p.now + r.Intn(24) - 2 }
	some := func() int { return r.Intn(len(d.p.timers) + 3) }
	var n, wantN int
	var l, wantL []api.Firing
	var e, wantE api.Errno
	what := r.Intn(7)
	switch what {
	case 0:
		at := near()
		n, e = d.c.At(at)
		wantN, wantE = d.p.set(at, 0, true)
	case 1:
		ticks := r.Intn(24) - 2
		n, e = d.c.After(ticks)
		wantN, wantE = d.p.set(d.p.now+ticks, 0, true)
	case 2, 3:
		first, period := near(), r.Intn(9)
		n, e = d.c.Every(first, period)
		wantN, wantE = d.p.set(first, period, period > 0)
	case 4:
		number := some()
		e, wantE = d.c.Stop(number), d.p.stop(number)
	case 5:
		number, at := some(), near()
		e, wantE = d.c.Move(number, at), d.p.move(number, at)
	case 6:
		ticks := r.Intn(14) - 1
		l, e = d.c.Advance(ticks)
		wantL, wantE = d.p.advance(ticks)
	}
	if n != wantN || e != wantE || !slices.Equal(l, wantL) {
		t.Fatalf("call %d at %d: %d, %v, %v; want %d, %v, %v", what, d.p.now, n, l, e, wantN, wantL, wantE)
	}
	wantStand(t, d.c, d.p.now, d.p.pending()...)
}

// chances goes through many clocks in many states, from 0 on and just ahead of the last tick.
func chances(t *testing.T, look func(r *rand.Rand, d *pair)) {
	t.Helper()
	r := rand.New(rand.NewSource(2))
	for round := range 400 {
		d := &pair{clock.New(), &plain{}}
		if round%2 == 1 {
			start := api.MaxTick - r.Intn(120)
			d.c.Advance(start)
			d.p.now = start
		}
		for range 60 {
			d.do(t, r)
			look(r, d)
			if t.Failed() {
				t.Fatalf("round %d", round)
			}
		}
	}
}

// 2.1 to 2.5, and R6

func TestAgainstPlainClock(t *testing.T) {
	chances(t, func(r *rand.Rand, d *pair) {
		if r.Intn(10) == 0 {
			d.c = d.c.Clone()
		}
	})
}

func TestCloneTellsTheSame(t *testing.T) {
	chances(t, func(r *rand.Rand, d *pair) {
		if r.Intn(20) > 0 {
			return
		}
		seed := r.Int63()
		one := &pair{d.c.Clone(), &plain{d.p.now, slices.Clone(d.p.timers)}}
		two := &pair{d.c.Clone(), &plain{d.p.now, slices.Clone(d.p.timers)}}
		first, second := rand.New(rand.NewSource(seed)), rand.New(rand.NewSource(seed+1))
		for range 15 {
			one.do(t, first)
			two.do(t, second)
		}
		wantStand(t, d.c, d.p.now, d.p.pending()...)
	})
}

func TestManyTimersAgainstPlainClock(t *testing.T) {
	r := rand.New(rand.NewSource(24))
	d := &pair{clock.New(), &plain{}}
	for range clock.MaxTimers + 5 {
		first, period := r.Intn(300), 1+r.Intn(500)
		n, e := d.c.Every(first, period)
		if wantN, wantE := d.p.set(first, period, true); n != wantN || e != wantE {
			t.Fatalf("Every(%d, %d): %d, %v; want %d, %v", first, period, n, e, wantN, wantE)
		}
	}
	for range 40 {
		number := 1 + r.Intn(clock.MaxTimers)
		wantCode(t, "Stop", d.c.Stop(number), d.p.stop(number))
		number, at := 1+r.Intn(clock.MaxTimers), d.p.now+r.Intn(400)
		wantCode(t, "Move", d.c.Move(number, at), d.p.move(number, at))
		ticks := r.Intn(400)
		l, e := d.c.Advance(ticks)
		if wantL, wantE := d.p.advance(ticks); e != wantE || !slices.Equal(l, wantL) {
			t.Fatalf("Advance(%d): %d firings, %v; want %d, %v", ticks, len(l), e, len(wantL), wantE)
		}
		wantStand(t, d.c, d.p.now, d.p.pending()...)
	}
}

// 2.6

func TestAdvanceInTwo(t *testing.T) {
	chances(t, func(r *rand.Rand, d *pair) {
		a, b := r.Intn(20), r.Intn(20)
		whole, parts := d.c.Clone(), d.c.Clone()
		all, e := whole.Advance(a + b)
		if e != api.OK {
			return
		}
		one, e1 := parts.Advance(a)
		two, e2 := parts.Advance(b)
		if e1 != api.OK || e2 != api.OK || !slices.Equal(all, slices.Concat(one, two)) {
			t.Errorf("Advance(%d), Advance(%d): %v, %v; in one: %v", a, b, one, two, all)
		}
		wantStand(t, parts, whole.Now(), whole.Pending()...)
	})
}

// 2.7

func TestFiringsAreInOrderAndAsMany(t *testing.T) {
	chances(t, func(r *rand.Rand, d *pair) {
		c := d.c.Clone()
		before := c.Pending()
		l, e := c.Advance(r.Intn(40))
		if e != api.OK {
			return
		}
		rising := func(a, b api.Firing) bool { return a.At < b.At || a.At == b.At && a.Number < b.Number }
		for i := 1; i < len(l); i++ {
			if !rising(l[i-1], l[i]) {
				t.Errorf("%v ahead of %v", l[i-1], l[i])
			}
		}
		sum := 0
		for _, p := range before {
			times := timesOf(l, p.Number)
			want := []int{}
			for at := p.At; at <= c.Now(); at += p.Every {
				want = append(want, at)
				if p.Every == 0 {
					break
				}
			}
			if p.Every > 0 && p.At <= c.Now() && len(want) != (c.Now()-p.At)/p.Every+1 {
				t.Errorf("the test's own count is off: %d", len(want))
			}
			if !slices.Equal(times, want) {
				t.Errorf("timer %v fires at %v up to %d, want %v", p, times, c.Now(), want)
			}
			sum += len(times)
		}
		if sum != len(l) {
			t.Errorf("%d firings, %d of them of timers that were pending", len(l), sum)
		}
	})
}

func timesOf(l []api.Firing, number int) []int {
	var times []int
	for _, f := range l {
		if f.Number == number {
			times = append(times, f.At)
		}
	}
	return times
}

// 2.8

func TestNothingAheadOfNext(t *testing.T) {
	chances(t, func(r *rand.Rand, d *pair) {
		next, ok := d.c.Next()
		if !ok {
			rest := d.c.Clone()
			wantFirings(t, rest, api.MaxTick-rest.Now())
			return
		}
		if ahead := next - 1 - d.c.Now(); ahead >= 0 {
			wantFirings(t, d.c.Clone(), ahead)
		}
		if l, e := d.c.Clone().Advance(next - d.c.Now()); len(l) == 0 || e != api.OK || l[0].At != next {
			t.Errorf("at %d, which is next: %v, %v", next, l, e)
		}
	})
}
