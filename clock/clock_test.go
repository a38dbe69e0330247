package clock_test

import (
	"math"
	"slices"
	"testing"

	"onceweb/api"
	"onceweb/clock"
)

func timer(number, at, every int) api.Timer {
	return api.Timer{Number: number, At: at, Every: every}
}

func firing(number, at int) api.Firing { return api.Firing{Number: number, At: at} }

// beside are numbers that lie outside of from 0 to MaxTick, and so are a time and ticks of no clock.
var beside = []int{-1, math.MinInt, api.MaxTick + 1, math.MaxInt}

// wantSet asks of a call that sets a timer for its number.
func wantSet(t *testing.T, what string, number int, e api.Errno, want int) {
	t.Helper()
	if number != want || e != api.OK {
		t.Errorf("%s: %d, %v; want %d, %v", what, number, e, want, api.OK)
	}
}

// wantNotSet asks of a call that sets a timer for its error, and no number.
func wantNotSet(t *testing.T, what string, number int, e, want api.Errno) {
	t.Helper()
	if number != 0 || e != want {
		t.Errorf("%s: %d, %v; want 0, %v", what, number, e, want)
	}
}

func wantCode(t *testing.T, what string, got, want api.Errno) {
	t.Helper()
	if got != want {
		t.Errorf("%s: %v, want %v", what, got, want)
	}
}

func wantFirings(t *testing.T, c *clock.Clock, ticks int, want ...api.Firing) {
	t.Helper()
	from := c.Now()
	l, e := c.Advance(ticks)
	if e != api.OK || !slices.Equal(l, want) {
		t.Errorf("Advance(%d) at %d: %v, %v; want %v", ticks, from, l, e, want)
	}
	if c.Now() != from+ticks {
		t.Errorf("Advance(%d) at %d: the time is %d", ticks, from, c.Now())
	}
}

func wantNoAdvance(t *testing.T, c *clock.Clock, ticks int, want api.Errno) {
	t.Helper()
	if l, e := c.Advance(ticks); len(l) != 0 || e != want {
		t.Errorf("Advance(%d) at %d: %d firings, %v; want none, %v", ticks, c.Now(), len(l), e, want)
	}
}

// wantStand asks for all that a clock tells without being changed; want is in order.
func wantStand(t *testing.T, c *clock.Clock, now int, want ...api.Timer) {
	t.Helper()
	if c.Now() != now {
		t.Errorf("Now: %d, want %d", c.Now(), now)
	}
	if l := c.Pending(); !slices.Equal(l, want) {
		t.Errorf("Pending at %d: %v, want %v", now, l, want)
	}
	first := timer(0, 0, 0)
	if len(want) > 0 {
		first = want[0]
	}
	if at, ok := c.Next(); at != first.At || ok != (len(want) > 0) {
		t.Errorf("Next at %d: %d, %v; want %d, %v", now, at, ok, first.At, len(want) > 0)
	}
}

// at is a new clock at that time.
func at(t *testing.T, time int) *clock.Clock {
	t.Helper()
	c := clock.New()
	wantFirings(t, c, time)
	return c
}

// full is a new clock with as many timers as may be, all at 7.
func full(t *testing.T) *clock.Clock {
	t.Helper()
	c := clock.New()
	for i := range clock.MaxTimers {
		n, e := c.At(7)
		wantSet(t, "At(7)", n, e, i+1)
	}
	return c
}

// The chapter's examples.

func TestFirstExample(t *testing.T) {
	c := clock.New()
	n, e := c.At(5)
	wantSet(t, "At(5)", n, e, 1)
	n, e = c.Every(2, 3)
	wantSet(t, "Every(2, 3)", n, e, 2)
	wantFirings(t, c, 5, firing(2, 2), firing(1, 5), firing(2, 5))
	wantStand(t, c, 5, timer(2, 8, 3))
}

func TestSecondExample(t *testing.T) {
	c := at(t, 5)
	n, e := c.At(3)
	wantNotSet(t, "At(3) at 5", n, e, api.ErrRange)
	n, e = c.After(0)
	wantSet(t, "After(0)", n, e, 1)
	wantStand(t, c, 5, timer(1, 5, 0))
	wantFirings(t, c, 0, firing(1, 5))
	wantStand(t, c, 5)
}

func TestThirdExample(t *testing.T) {
	c := clock.New()
	c.Every(0, 1)
	wantNoAdvance(t, c, 4096, api.ErrLong)
	wantStand(t, c, 0, timer(1, 0, 1))
	l, e := c.Advance(4095)
	if len(l) != 4096 || e != api.OK {
		t.Fatalf("Advance(4095): %d firings, %v", len(l), e)
	}
	for i, f := range l {
		if f != firing(1, i) {
			t.Fatalf("firing %d: %v", i, f)
		}
	}
	wantStand(t, c, 4095, timer(1, 4096, 1))
}

// 2.1

func TestNew(t *testing.T) {
	wantStand(t, clock.New(), 0)
	c, d := clock.New(), clock.New()
	c.At(4)
	wantStand(t, d, 0)
	n, e := d.At(1)
	wantSet(t, "the first one of another clock", n, e, 1)
}

func TestNow(t *testing.T) {
	c := clock.New()
	sum := 0
	for _, ticks := range []int{0, 1, 0, 41, 1 << 20, api.MaxTick - 1<<20 - 42, 0} {
		wantFirings(t, c, ticks)
		sum += ticks
		wantStand(t, c, sum)
	}
	wantStand(t, c, api.MaxTick)
}

func TestClone(t *testing.T) {
	c := at(t, 3)
	c.At(9)
	c.Every(4, 2)
	c.At(8)
	c.Stop(3)
	d := c.Clone()
	wantStand(t, d, 3, timer(2, 4, 2), timer(1, 9, 0))
	n, e := d.At(6)
	wantSet(t, "a clone's numbers go on", n, e, 4)
	n, e = c.At(5)
	wantSet(t, "and so do those of what it was made of", n, e, 4)
	wantStand(t, c, 3, timer(2, 4, 2), timer(4, 5, 0), timer(1, 9, 0))
	wantStand(t, d, 3, timer(2, 4, 2), timer(4, 6, 0), timer(1, 9, 0))
}

func TestCloneAndClockAreApart(t *testing.T) {
	make := func() *clock.Clock {
		c := at(t, 3)
		c.At(9)
		c.Every(4, 2)
		c.At(8)
		return c
	}
	whole := []api.Timer{timer(2, 4, 2), timer(3, 8, 0), timer(1, 9, 0)}
	changes := []func(c *clock.Clock){
		func(c *clock.Clock) { c.At(3) },
		func(c *clock.Clock) { c.After(1) },
		func(c *clock.Clock) { c.Every(3, 1) },
		func(c *clock.Clock) { c.Stop(2) },
		func(c *clock.Clock) { c.Move(1, 3) },
		func(c *clock.Clock) { c.Move(2, 40) },
		func(c *clock.Clock) { c.Advance(6) },
	}
	for _, change := range changes {
		c := make()
		d := c.Clone()
		change(c)
		wantStand(t, d, 3, whole...)
		c = make()
		d = c.Clone()
		change(d)
		wantStand(t, c, 3, whole...)
	}
}

func TestCloneOfNewAndOfClone(t *testing.T) {
	c := clock.New()
	d := c.Clone()
	c.At(1)
	wantStand(t, d, 0)
	d.At(2)
	f := d.Clone().Clone()
	d.Advance(5)
	wantStand(t, f, 0, timer(1, 2, 0))
	wantStand(t, c, 0, timer(1, 1, 0))
}

// 2.2

func TestAt(t *testing.T) {
	c := at(t, 10)
	for i, time := range []int{10, 11, api.MaxTick, api.MaxTick - 1, 10} {
		n, e := c.At(time)
		wantSet(t, "At", n, e, i+1)
	}
	whole := []api.Timer{timer(1, 10, 0), timer(5, 10, 0), timer(2, 11, 0), timer(4, api.MaxTick-1, 0), timer(3, api.MaxTick, 0)}
	wantStand(t, c, 10, whole...)
	for _, time := range append([]int{9, 0}, beside...) {
		n, e := c.At(time)
		wantNotSet(t, "At", n, e, api.ErrRange)
	}
	wantStand(t, c, 10, whole...)
	n, e := c.At(10)
	wantSet(t, "no number is lost by a refusal", n, e, 6)
}

func TestAfter(t *testing.T) {
	c := at(t, 10)
	for i, ticks := range []int{0, 1, api.MaxTick - 10, api.MaxTick - 11} {
		n, e := c.After(ticks)
		wantSet(t, "After", n, e, i+1)
	}
	whole := []api.Timer{timer(1, 10, 0), timer(2, 11, 0), timer(4, api.MaxTick-1, 0), timer(3, api.MaxTick, 0)}
	wantStand(t, c, 10, whole...)
	for _, ticks := range append([]int{api.MaxTick - 9, api.MaxTick, math.MaxInt - 9}, beside...) {
		n, e := c.After(ticks)
		wantNotSet(t, "After", n, e, api.ErrRange)
	}
	wantStand(t, c, 10, whole...)
	n, e := c.After(2)
	wantSet(t, "no number is lost by a refusal", n, e, 5)
}

func TestEvery(t *testing.T) {
	c := at(t, 10)
	for i, period := range []int{1, 2, api.MaxTick - 1, api.MaxTick} {
		n, e := c.Every(10+i, period)
		wantSet(t, "Every", n, e, i+1)
	}
	n, e := c.Every(api.MaxTick, 1)
	wantSet(t, "Every", n, e, 5)
	whole := []api.Timer{timer(1, 10, 1), timer(2, 11, 2), timer(3, 12, api.MaxTick-1), timer(4, 13, api.MaxTick), timer(5, api.MaxTick, 1)}
	wantStand(t, c, 10, whole...)
	for _, first := range append([]int{9, 0}, beside...) {
		n, e := c.Every(first, 1)
		wantNotSet(t, "Every, its first time", n, e, api.ErrRange)
	}
	for _, period := range append([]int{0}, beside...) {
		n, e := c.Every(10, period)
		wantNotSet(t, "Every, its period", n, e, api.ErrRange)
	}
	wantStand(t, c, 10, whole...)
	n, e = c.Every(10, 1)
	wantSet(t, "no number is lost by a refusal", n, e, 6)
}

func TestTheLastTick(t *testing.T) {
	c := at(t, api.MaxTick)
	n, e := c.At(api.MaxTick)
	wantSet(t, "At", n, e, 1)
	n, e = c.After(0)
	wantSet(t, "After", n, e, 2)
	n, e = c.Every(api.MaxTick, api.MaxTick)
	wantSet(t, "Every", n, e, 3)
	n, e = c.After(1)
	wantNotSet(t, "After(1)", n, e, api.ErrRange)
	n, e = c.At(api.MaxTick - 1)
	wantNotSet(t, "At", n, e, api.ErrRange)
	wantNoAdvance(t, c, 1, api.ErrRange)
	wantFirings(t, c, 0, firing(1, api.MaxTick), firing(2, api.MaxTick), firing(3, api.MaxTick))
	wantStand(t, c, api.MaxTick)
}

func TestMostTimers(t *testing.T) {
	c := full(t)
	whole := c.Pending()
	n, e := c.At(7)
	wantNotSet(t, "At of a full clock", n, e, api.ErrLong)
	n, e = c.After(7)
	wantNotSet(t, "After of a full clock", n, e, api.ErrLong)
	n, e = c.Every(7, 1)
	wantNotSet(t, "Every of a full clock", n, e, api.ErrLong)
	n, e = c.At(-1)
	wantNotSet(t, "At: the range comes first", n, e, api.ErrRange)
	n, e = c.After(-1)
	wantNotSet(t, "After: the range comes first", n, e, api.ErrRange)
	n, e = c.Every(-1, 1)
	wantNotSet(t, "Every: the range comes first", n, e, api.ErrRange)
	n, e = c.Every(0, 0)
	wantNotSet(t, "Every: the period's range comes first too", n, e, api.ErrRange)
	wantStand(t, c, 0, whole...)
}

func TestRoomAgain(t *testing.T) {
	c := full(t)
	wantCode(t, "Stop", c.Stop(500), api.OK)
	n, e := c.At(3)
	wantSet(t, "one was stopped", n, e, clock.MaxTimers+1)
	n, e = c.At(3)
	wantNotSet(t, "and one was set", n, e, api.ErrLong)
	wantFirings(t, c, 3, firing(clock.MaxTimers+1, 3))
	n, e = c.Every(4, 1)
	wantSet(t, "one has fired", n, e, clock.MaxTimers+2)
	wantFirings(t, c, 1, firing(clock.MaxTimers+2, 4))
	n, e = c.At(9)
	wantNotSet(t, "one that goes on is pending still", n, e, api.ErrLong)
}

// 2.3

func TestStop(t *testing.T) {
	c := at(t, 1)
	c.At(5)
	c.Every(3, 4)
	c.At(4)
	for _, number := range []int{0, 4, -1, math.MinInt, math.MaxInt} {
		wantCode(t, "Stop of a number that was never given", c.Stop(number), api.ErrNone)
	}
	wantStand(t, c, 1, timer(2, 3, 4), timer(3, 4, 0), timer(1, 5, 0))
	wantCode(t, "Stop", c.Stop(2), api.OK)
	wantCode(t, "Stop of one that was stopped", c.Stop(2), api.ErrNone)
	wantStand(t, c, 1, timer(3, 4, 0), timer(1, 5, 0))
	wantFirings(t, c, 3, firing(3, 4))
	wantCode(t, "Stop of one that has fired", c.Stop(3), api.ErrNone)
	wantStand(t, c, 4, timer(1, 5, 0))
	wantCode(t, "Stop", c.Stop(1), api.OK)
	wantStand(t, c, 4)
	wantFirings(t, c, 10)
	n, e := c.At(20)
	wantSet(t, "a stopped one's number is not given again", n, e, 4)
}

func TestStopOfOneThatGoesOn(t *testing.T) {
	c := clock.New()
	c.Every(1, 2)
	wantFirings(t, c, 4, firing(1, 1), firing(1, 3))
	wantCode(t, "Stop behind some firings", c.Stop(1), api.OK)
	wantFirings(t, c, 9)
	wantStand(t, c, 13)
}

func TestMove(t *testing.T) {
	c := at(t, 2)
	c.At(5)
	c.Every(6, 10)
	c.At(7)
	wantCode(t, "Move to now", c.Move(3, 2), api.OK)
	wantStand(t, c, 2, timer(3, 2, 0), timer(1, 5, 0), timer(2, 6, 10))
	wantCode(t, "Move to the last tick", c.Move(3, api.MaxTick), api.OK)
	wantStand(t, c, 2, timer(1, 5, 0), timer(2, 6, 10), timer(3, api.MaxTick, 0))
	wantCode(t, "Move of one that goes on", c.Move(2, 5), api.OK)
	wantStand(t, c, 2, timer(1, 5, 0), timer(2, 5, 10), timer(3, api.MaxTick, 0))
	wantCode(t, "Move to where it is", c.Move(2, 5), api.OK)
	wantFirings(t, c, 13, firing(1, 5), firing(2, 5), firing(2, 15))
	wantStand(t, c, 15, timer(2, 25, 10), timer(3, api.MaxTick, 0))
}

func TestMoveRefused(t *testing.T) {
	c := at(t, 2)
	c.At(2)
	c.At(7)
	c.Every(8, 3)
	c.At(9)
	c.Advance(0)
	c.Stop(4)
	whole := []api.Timer{timer(2, 7, 0), timer(3, 8, 3)}
	for _, number := range []int{0, 1, 4, 5, -1, math.MinInt, math.MaxInt} {
		wantCode(t, "Move of one that is not pending", c.Move(number, 6), api.ErrNone)
		wantCode(t, "Move: the number comes first", c.Move(number, -1), api.ErrNone)
	}
	for _, time := range append([]int{1, 0}, beside...) {
		wantCode(t, "Move to a time that may not be", c.Move(2, time), api.ErrRange)
		wantCode(t, "Move to a time that may not be", c.Move(3, time), api.ErrRange)
	}
	wantStand(t, c, 2, whole...)
}

func TestMoveOfFullClock(t *testing.T) {
	c := full(t)
	wantCode(t, "Move", c.Move(clock.MaxTimers, 1), api.OK)
	if l := c.Pending(); len(l) != clock.MaxTimers || l[0] != timer(clock.MaxTimers, 1, 0) {
		t.Errorf("Pending: %d, %v ahead", len(l), l[0])
	}
}

// 2.4

func TestAdvanceOutOfRange(t *testing.T) {
	c := at(t, 10)
	c.At(10)
	for _, ticks := range append([]int{api.MaxTick - 9, api.MaxTick, math.MaxInt - 9}, beside...) {
		wantNoAdvance(t, c, ticks, api.ErrRange)
		wantStand(t, c, 10, timer(1, 10, 0))
	}
	wantFirings(t, c, api.MaxTick-10, firing(1, 10))
	wantNoAdvance(t, c, 1, api.ErrRange)
	wantStand(t, c, api.MaxTick)
}

func TestTimersOfOneTime(t *testing.T) {
	c := clock.New()
	c.At(5)
	c.Every(3, 2)
	c.At(3)
	c.At(5)
	c.Every(1, 4)
	wantStand(t, c, 0, timer(5, 1, 4), timer(2, 3, 2), timer(3, 3, 0), timer(1, 5, 0), timer(4, 5, 0))
	wantFirings(t, c, 5, firing(5, 1), firing(2, 3), firing(3, 3), firing(1, 5), firing(2, 5), firing(4, 5), firing(5, 5))
	wantStand(t, c, 5, timer(2, 7, 2), timer(5, 9, 4))
}

func TestTimersForNow(t *testing.T) {
	c := at(t, 6)
	c.At(6)
	c.Every(6, 1)
	c.After(0)
	wantFirings(t, c, 0, firing(1, 6), firing(2, 6), firing(3, 6))
	wantFirings(t, c, 0)
	wantStand(t, c, 6, timer(2, 7, 1))
}

func TestOneBesideItsTime(t *testing.T) {
	c := clock.New()
	c.At(5)
	wantFirings(t, c, 4)
	wantFirings(t, c, 1, firing(1, 5))
	wantFirings(t, c, 1)
}

func TestNoMoreThanMaxTick(t *testing.T) {
	c := at(t, api.MaxTick-10)
	c.Every(api.MaxTick-9, 4)
	c.Every(api.MaxTick-9, 9)
	c.Every(api.MaxTick-9, 10)
	c.Every(api.MaxTick-9, api.MaxTick)
	wantFirings(t, c, 1, firing(1, api.MaxTick-9), firing(2, api.MaxTick-9), firing(3, api.MaxTick-9), firing(4, api.MaxTick-9))
	wantStand(t, c, api.MaxTick-9, timer(1, api.MaxTick-5, 4), timer(2, api.MaxTick, 9))
	wantCode(t, "Stop of one whose next time is beyond", c.Stop(3), api.ErrNone)
	wantFirings(t, c, 9, firing(1, api.MaxTick-5), firing(1, api.MaxTick-1), firing(2, api.MaxTick))
	wantStand(t, c, api.MaxTick)
}

func TestGreatestPeriod(t *testing.T) {
	c := clock.New()
	c.Every(0, api.MaxTick)
	c.Every(1, api.MaxTick)
	wantFirings(t, c, api.MaxTick, firing(1, 0), firing(2, 1), firing(1, api.MaxTick))
	wantStand(t, c, api.MaxTick)
}

func TestMostFiringsOfMany(t *testing.T) {
	c := clock.New()
	for range clock.MaxTimers {
		c.Every(0, 1)
	}
	whole := c.Pending()
	for _, ticks := range []int{4, 5, 4096, api.MaxTick} {
		wantNoAdvance(t, c, ticks, api.ErrLong)
		wantStand(t, c, 0, whole...)
	}
	d := c.Clone()
	l, e := c.Advance(3)
	if len(l) != api.MaxItems || e != api.OK {
		t.Fatalf("Advance(3): %d firings, %v", len(l), e)
	}
	for i, f := range l {
		if f != firing(i%clock.MaxTimers+1, i/clock.MaxTimers) {
			t.Fatalf("firing %d: %v", i, f)
		}
	}
	d.Move(1, 3)
	d.At(3)
	if l, e := d.Advance(3); len(l) != api.MaxItems-3 || e != api.OK {
		t.Errorf("three fewer: %d firings, %v", len(l), e)
	}
}

func TestOneMoreThanMostFirings(t *testing.T) {
	c := clock.New()
	c.At(5)
	c.Every(1, 1)
	wantNoAdvance(t, c, api.MaxItems, api.ErrLong)
	wantStand(t, c, 0, timer(2, 1, 1), timer(1, 5, 0))
	c.Stop(1)
	if l, e := c.Advance(api.MaxItems); len(l) != api.MaxItems || e != api.OK {
		t.Errorf("as many as may be: %d firings, %v", len(l), e)
	}
}

// 2.5

func TestNextAndPendingChangeNothing(t *testing.T) {
	c := clock.New()
	c.At(3)
	c.Every(1, 5)
	for range 3 {
		wantStand(t, c, 0, timer(2, 1, 5), timer(1, 3, 0))
	}
	wantFirings(t, c, 3, firing(2, 1), firing(1, 3))
}

// R3

func TestAnswersAreNewMemory(t *testing.T) {
	c := clock.New()
	c.Every(1, 1)
	c.At(9)
	spoil(c.Pending(), timer(7, 7, 7))
	wantStand(t, c, 0, timer(1, 1, 1), timer(2, 9, 0))
	first, _ := c.Advance(2)
	spoil(first, firing(9, 9))
	second, _ := c.Advance(2)
	spoil(first, firing(9, 9))
	if !slices.Equal(second, []api.Firing{firing(1, 3), firing(1, 4)}) {
		t.Errorf("two answers share memory: %v", second)
	}
	d := c.Clone()
	one, two := c.Pending(), c.Pending()
	spoil(one, timer(7, 7, 7))
	if !slices.Equal(two, []api.Timer{timer(1, 5, 1), timer(2, 9, 0)}) {
		t.Errorf("two answers share memory: %v", two)
	}
	spoil(d.Pending(), timer(7, 7, 7))
	wantStand(t, c, 4, timer(1, 5, 1), timer(2, 9, 0))
	wantStand(t, d, 4, timer(1, 5, 1), timer(2, 9, 0))
}

// spoil overwrites a list with its spare room.
func spoil[T any](l []T, with T) {
	l = l[:cap(l)]
	for i := range l {
		l[i] = with
	}
}
