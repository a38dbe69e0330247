package retry_test

import (
	"fmt"
	"math"
	"strconv"
	"strings"
	"testing"

	"onceweb/api"
	"onceweb/retry"
)

// breaking is what a breaker, and what it is held against, can do.
type breaking interface {
	Ask(at int) (int, bool, api.Errno)
	Tell(try int, fine bool, at int) api.Errno
	State() (int, int, int)
}

func newBreaker(t *testing.T, limit, rest int) *retry.Breaker {
	t.Helper()
	b, e := retry.NewBreaker(limit, rest)
	if b == nil || e != api.OK {
		t.Fatalf("NewBreaker(%d, %d): %v, %v", limit, rest, b, e)
	}
	return b
}

var stateWords = [...]string{api.BreakClosed: "closed", api.BreakOpen: "open", api.BreakHalf: "half"}

// asked is an Ask's answer: the try's number, none, or an error.
func asked(try int, lets bool, e api.Errno) string {
	switch {
	case e != api.OK && try == 0 && !lets:
		return e.Error()
	case e == api.OK && try > 0 && lets:
		return strconv.Itoa(try)
	case e == api.OK && try == 0 && !lets:
		return "none"
	}
	return fmt.Sprint("odd: ", try, lets, e)
}

func okText(e api.Errno) string {
	if e == api.OK {
		return "ok"
	}
	return e.Error()
}

func stateOf(b breaking) string {
	state, row, until := b.State()
	if state < api.BreakClosed || state > api.BreakHalf {
		return fmt.Sprint("odd: ", state)
	}
	return fmt.Sprint(stateWords[state], " ", row, " ", until)
}

// answer is what a call comes to that is written so: ask TIME, fine TRY TIME, bad TRY TIME, state.
func answer(b breaking, call string) string {
	words := strings.Fields(call)
	number := func(i int) int {
		n, e := strconv.Atoi(words[i])
		if e != nil {
			panic("no number: " + call)
		}
		return n
	}
	switch words[0] {
	case "ask":
		return asked(b.Ask(number(1)))
	case "fine", "bad":
		return okText(b.Tell(number(1), words[0] == "fine", number(2)))
	case "state":
		return stateOf(b)
	}
	panic("no call: " + call)
}

// behind is a breaker behind calls; a call may have its answer with it.
func behind(t *testing.T, limit, rest int, lines []string) *retry.Breaker {
	t.Helper()
	b := newBreaker(t, limit, rest)
	for _, line := range lines {
		call, _, _ := strings.Cut(line, " -> ")
		answer(b, call)
	}
	return b
}

// looked is all that can be told by one call more, and by asking behind that, of a breaker behind calls.
func looked(t *testing.T, limit, rest int, lines []string, times []int, most int) string {
	t.Helper()
	var l []string
	for _, at := range times {
		calls := []string{fmt.Sprint("ask ", at)}
		for try := 0; try <= most; try++ {
			calls = append(calls, fmt.Sprint("fine ", try, " ", at), fmt.Sprint("bad ", try, " ", at))
		}
		for _, call := range calls {
			b := behind(t, limit, rest, lines)
			l = append(l, call, answer(b, call), stateOf(b), asked(b.Ask(at)), stateOf(b), asked(b.Ask(api.MaxTick)))
		}
	}
	return strings.Join(l, "; ")
}

// played are calls of one breaker, each with what it answers.
type played struct {
	limit, rest int
	lines       []string
}

// wantPlayed asks each row's calls for their answers; and that one that is refused has changed nothing.
func wantPlayed(t *testing.T, rows []played) {
	t.Helper()
	for _, r := range rows {
		b := newBreaker(t, r.limit, r.rest)
		for i, line := range r.lines {
			call, want, _ := strings.Cut(line, " -> ")
			got := answer(b, call)
			if got != want {
				t.Errorf("%d %d %q: %s answers %s, want %s", r.limit, r.rest, r.lines[:i], call, got, want)
			}
			if strings.HasPrefix(got, "error") {
				wantUnchanged(t, r, i)
			}
		}
	}
}

// wantUnchanged: behind the line i, which is refused, all is as ahead of it.
func wantUnchanged(t *testing.T, r played, i int) {
	t.Helper()
	times := []int{0, 1, 4, 5, 6, 11, 12, 13, 22, 23, api.MaxTick - 1, api.MaxTick}
	ahead := looked(t, r.limit, r.rest, r.lines[:i], times, 5)
	if later := looked(t, r.limit, r.rest, r.lines[:i+1], times, 5); ahead != later {
		t.Errorf("%d %d %q: %s was refused, and changed %s to %s", r.limit, r.rest, r.lines[:i], r.lines[i], ahead, later)
	}
}

const (
	lastTime = "1099511627776"
	tooLate  = "1099511627777"
)

func TestNewBreaker(t *testing.T) {
	rows := []struct {
		limit, rest int
		right       bool
	}{
		{1, 1, true}, {1000, 1, true}, {1, api.MaxTick, true}, {1000, api.MaxTick, true}, {2, 10, true}, {999, api.MaxTick - 1, true},
		{0, 1, false}, {-1, 1, false}, {1001, 1, false}, {math.MinInt, 1, false}, {math.MaxInt, 1, false},
		{1, 0, false}, {1, -1, false}, {1, api.MaxTick + 1, false}, {1, math.MinInt, false}, {1, math.MaxInt, false},
		{0, 0, false}, {1001, api.MaxTick + 1, false},
	}
	for _, r := range rows {
		b, e := retry.NewBreaker(r.limit, r.rest)
		switch {
		case r.right && (b == nil || e != api.OK || stateOf(b) != "closed 0 0"):
			t.Errorf("NewBreaker(%d, %d): %v, %v", r.limit, r.rest, b, e)
		case !r.right && (b != nil || e != api.ErrRange):
			t.Errorf("NewBreaker(%d, %d): %v, %v, want error 1", r.limit, r.rest, b, e)
		}
	}
}

func TestExample(t *testing.T) {
	wantPlayed(t, []played{{2, 10, []string{
		"state -> closed 0 0", "ask 0 -> 1", "bad 1 1 -> ok", "state -> closed 1 0", "ask 1 -> 2", "bad 2 2 -> ok", "state -> open 0 12",
		"ask 11 -> none", "state -> open 0 12", "ask 12 -> 3", "state -> half 0 0", "ask 12 -> none", "fine 3 13 -> ok", "state -> closed 0 0",
	}}})
}

// TestClosed: tries that are let, their numbers, failures in a row.
func TestClosed(t *testing.T) {
	wantPlayed(t, []played{
		{3, 10, []string{"ask 0 -> 1", "ask 0 -> 2", "ask 7 -> 3", "state -> closed 0 0", "bad 2 7 -> ok", "state -> closed 1 0", "ask 7 -> 4", "fine 1 8 -> ok", "state -> closed 0 0", "bad 3 8 -> ok", "bad 4 8 -> ok", "state -> closed 2 0", "ask 8 -> 5", "bad 5 9 -> ok", "state -> open 0 19"}},
		{1, 10, []string{"ask 3 -> 1", "bad 1 4 -> ok", "state -> open 0 14"}},
		{1, 10, []string{"ask 3 -> 1", "fine 1 4 -> ok", "state -> closed 0 0", "ask 4 -> 2"}},
		// One fine one between.
		{2, 10, []string{"ask 0 -> 1", "bad 1 0 -> ok", "ask 0 -> 2", "fine 2 0 -> ok", "ask 0 -> 3", "bad 3 0 -> ok", "state -> closed 1 0", "ask 0 -> 4", "bad 4 0 -> ok", "state -> open 0 10"}},
		// In a row is as they are told, not as they were let.
		{2, 10, []string{"ask 0 -> 1", "ask 0 -> 2", "ask 0 -> 3", "bad 3 1 -> ok", "fine 2 1 -> ok", "bad 1 1 -> ok", "state -> closed 1 0"}},
		{2, 10, []string{"ask 0 -> 1", "ask 0 -> 2", "ask 0 -> 3", "bad 3 1 -> ok", "bad 1 1 -> ok", "state -> open 0 11"}},
		{2, 1, []string{"ask " + lastTime + " -> 1", "ask " + lastTime + " -> 2", "ask " + tooLate + " -> error 1", "ask -1 -> error 1", "ask 0 -> error 7"}},
	})
}

func TestOpen(t *testing.T) {
	open := []string{"ask 0 -> 1", "bad 1 2 -> ok", "state -> open 0 12"}
	wantPlayed(t, []played{
		{1, 10, append(open[:3:3], "ask 2 -> none", "ask 11 -> none", "state -> open 0 12", "ask 12 -> 2", "state -> half 0 0")},
		{1, 10, append(open[:3:3], "ask 13 -> 2", "state -> half 0 0")},
		{1, 10, append(open[:3:3], "ask "+lastTime+" -> 2", "state -> half 0 0")},
		{1, 10, append(open[:3:3], "ask -1 -> error 1", "ask "+tooLate+" -> error 1", "ask 1 -> error 7", "bad 1 12 -> error 4", "bad 2 12 -> error 4", "state -> open 0 12", "ask 2 -> none")},
		// What is not let has no number.
		{1, 10, append(open[:3:3], "ask 5 -> none", "ask 6 -> none", "ask 12 -> 2")},
	})
}

func TestHalfOpen(t *testing.T) {
	half := []string{"ask 0 -> 1", "bad 1 2 -> ok", "ask 12 -> 2", "state -> half 0 0"}
	wantPlayed(t, []played{
		{1, 10, append(half[:4:4], "ask 12 -> none", "ask 13 -> none", "ask 22 -> none", "ask "+lastTime+" -> none", "state -> half 0 0", "bad 2 "+lastTime+" -> ok", "state -> open 0 "+lastTime)},
		{1, 10, append(half[:4:4], "fine 2 12 -> ok", "state -> closed 0 0", "ask 12 -> 3", "ask 12 -> 4")},
		{1, 10, append(half[:4:4], "bad 2 13 -> ok", "state -> open 0 23", "ask 22 -> none", "ask 23 -> 3", "state -> half 0 0", "ask 23 -> none", "fine 3 24 -> ok", "state -> closed 0 0")},
		// One failure opens it, whatever the limit; once it is closed, they are counted anew.
		{2, 10, []string{"ask 0 -> 1", "ask 0 -> 2", "bad 1 0 -> ok", "bad 2 0 -> ok", "ask 10 -> 3", "bad 3 10 -> ok", "state -> open 0 20", "ask 20 -> 4", "fine 4 20 -> ok", "ask 20 -> 5", "bad 5 20 -> ok", "state -> closed 1 0", "ask 21 -> 6", "bad 6 21 -> ok", "state -> open 0 31"}},
		{1, 10, append(half[:4:4], "ask -1 -> error 1", "ask "+tooLate+" -> error 1", "ask 11 -> error 7", "bad 2 -1 -> error 1", "fine 2 "+tooLate+" -> error 1", "fine 2 11 -> error 7", "fine 3 12 -> error 4", "state -> half 0 0", "fine 2 12 -> ok", "state -> closed 0 0")},
	})
}

// TestEarlierStates: a try of an earlier state is told, and that is all.
func TestEarlierStates(t *testing.T) {
	for _, late := range []string{"fine", "bad"} {
		wantPlayed(t, []played{
			// While it is open, half open, closed again, open again; the closed one is another one than the first.
			{1, 10, []string{"ask 0 -> 1", "ask 0 -> 2", "bad 1 2 -> ok", late + " 2 5 -> ok", "state -> open 0 12", late + " 2 5 -> error 4", "ask 11 -> none", "ask 12 -> 3"}},
			{1, 10, []string{"ask 0 -> 1", "ask 0 -> 2", "bad 1 2 -> ok", "ask 12 -> 3", late + " 2 13 -> ok", "state -> half 0 0", "ask 13 -> none", late + " 2 13 -> error 4", "fine 3 13 -> ok", "state -> closed 0 0"}},
			{2, 10, []string{"ask 0 -> 1", "ask 0 -> 2", "ask 0 -> 3", "bad 1 1 -> ok", "bad 2 2 -> ok", "ask 12 -> 4", "fine 4 12 -> ok", "ask 12 -> 5", "bad 5 12 -> ok", "state -> closed 1 0", late + " 3 13 -> ok", "state -> closed 1 0", "ask 13 -> 6", "bad 6 13 -> ok", "state -> open 0 23"}},
			{1, 10, []string{"ask 0 -> 1", "ask 0 -> 2", "bad 1 2 -> ok", "ask 12 -> 3", "bad 3 12 -> ok", late + " 2 13 -> ok", "state -> open 0 22"}},
			{1, 10, []string{"ask 0 -> 1", "ask 0 -> 2", "bad 1 2 -> ok", "ask 12 -> 3", "bad 3 12 -> ok", "ask 22 -> 4", late + " 2 22 -> ok", "state -> half 0 0", "bad 4 23 -> ok", "state -> open 0 33"}},
			{1, 10, []string{"ask 0 -> 1", "ask 0 -> 2", "bad 1 2 -> ok", "ask 12 -> 3", "fine 3 12 -> ok", late + " 2 13 -> ok", "state -> closed 0 0", "ask 13 -> 4", "bad 4 13 -> ok", "state -> open 0 23"}},
		})
	}
}

func TestTellOfNoTry(t *testing.T) {
	rows := []played{
		{1, 10, []string{"fine 1 0 -> error 4", "bad 1 0 -> error 4", "fine 0 0 -> error 4", "bad -1 0 -> error 4", "state -> closed 0 0"}},
		{1, 10, []string{"ask 5 -> 1", "bad 2 5 -> error 4", "bad 0 5 -> error 4", "fine 1 5 -> ok", "bad 1 5 -> error 4", "fine 1 5 -> error 4", "state -> closed 0 0"}},
		// It is told ahead of what is wrong with the time.
		{1, 10, []string{"ask 5 -> 1", "bad 2 -1 -> error 4", "bad 2 " + tooLate + " -> error 4", "bad 2 4 -> error 4", "bad 1 -1 -> error 1", "fine 1 " + tooLate + " -> error 1", "bad 1 4 -> error 7", "bad 1 5 -> ok", "bad 1 -1 -> error 4"}},
	}
	for _, n := range numbers {
		if n < 1 || n > 2 {
			rows = append(rows, played{1, 10, []string{"ask 0 -> 1", "ask 0 -> 2", fmt.Sprint("bad ", n, " 0 -> error 4"), "state -> closed 0 0"}})
		}
	}
	wantPlayed(t, rows)
}

// TestTimeGoesOn: no call goes with a time ahead of that of one that went, whatever it answered; what was refused told no time.
func TestTimeGoesOn(t *testing.T) {
	wantPlayed(t, []played{
		{2, 10, []string{"ask 5 -> 1", "ask 4 -> error 7", "bad 1 4 -> error 7", "ask 5 -> 2", "bad 1 5 -> ok", "ask 6 -> 3", "fine 2 5 -> error 7", "fine 2 6 -> ok", "ask 5 -> error 7"}},
		{1, 10, []string{"ask 0 -> 1", "ask 0 -> 2", "bad 1 2 -> ok", "ask 1 -> error 7", "ask 6 -> none", "ask 5 -> error 7", "bad 2 5 -> error 7", "bad 2 11 -> ok", "ask 10 -> error 7", "ask 11 -> none"}},
		{1, 10, []string{"ask 0 -> 1", "ask 0 -> 2", "bad 1 2 -> ok", "ask 12 -> 3", "ask 20 -> none", "fine 3 19 -> error 7", "fine 3 20 -> ok", "ask 19 -> error 7", "fine 2 21 -> ok", "ask 20 -> error 7", "ask 21 -> 4"}},
		{1, 10, []string{"ask 5 -> 1", "ask " + tooLate + " -> error 1", "ask 5 -> 2", "bad 1 " + tooLate + " -> error 1", "bad 9 100 -> error 4", "bad 1 5 -> ok", "state -> open 0 15"}},
		{1, 10, []string{"ask 5 -> 1", "ask -1 -> error 1", "ask -9223372036854775808 -> error 1", "ask 9223372036854775807 -> error 1", "bad 1 -9223372036854775808 -> error 1", "bad 1 9223372036854775807 -> error 1", "ask 0 -> error 7"}},
	})
}

// TestOpenUntil: at and rest, at most MaxTick.
func TestOpenUntil(t *testing.T) {
	const most = api.MaxTick
	rows := []struct{ rest, at, until int }{
		{1, 0, 1}, {10, 5, 15}, {most, 0, most}, {most, 1, most}, {most, most, most}, {1, most, most}, {1, most - 1, most}, {2, most - 1, most},
		{10, most - 11, most - 1}, {10, most - 10, most}, {10, most - 9, most},
	}
	for _, r := range rows {
		b := newBreaker(t, 1, r.rest)
		b.Ask(0)
		b.Tell(1, false, r.at)
		want(t, stateOf(b), fmt.Sprint("open 0 ", r.until), "behind a failure", r)
		if r.until > r.at {
			want(t, asked(b.Ask(r.until-1)), "none", "one ahead", r)
		}
		want(t, asked(b.Ask(r.until)), "2", "at its time", r)

		if r.at < r.rest {
			continue
		}
		b = newBreaker(t, 1, r.rest)
		b.Ask(0)
		b.Tell(1, false, 0)
		want(t, asked(b.Ask(r.at)), "2", "half open", r)
		b.Tell(2, false, r.at)
		want(t, stateOf(b), fmt.Sprint("open 0 ", r.until), "behind a failure while it is half open", r)
	}
}

// full is a breaker with MaxWays tries on their way, the last one let at 9.
func full(t *testing.T, limit, rest int) *retry.Breaker {
	t.Helper()
	b := newBreaker(t, limit, rest)
	for i := range retry.MaxWays {
		want(t, asked(b.Ask(9)), fmt.Sprint(i+1), "Ask", i)
	}
	return b
}

func wantAnswers(t *testing.T, b breaking, lines ...string) {
	t.Helper()
	for i, line := range lines {
		call, wanted, _ := strings.Cut(line, " -> ")
		want(t, answer(b, call), wanted, "behind", lines[:i], call)
	}
}

func TestMaxWays(t *testing.T) {
	if retry.MaxWays != 1<<10 {
		t.Fatal(retry.MaxWays)
	}
	b := full(t, 5, 10)
	// What else is wrong is told first, and what is refused tells no time, and takes no number.
	wantAnswers(t, b, "ask 9 -> error 3", "ask 20 -> error 3", "ask 8 -> error 7", "ask -1 -> error 1", "ask "+tooLate+" -> error 1", "state -> closed 0 0",
		"bad 1025 9 -> error 4", "bad 500 9 -> ok", "state -> closed 1 0", "ask 10 -> 1025", "ask 10 -> error 3", "fine 1025 10 -> ok", "state -> closed 0 0", "fine 1 10 -> ok", "ask 11 -> 1026", "ask 11 -> 1027", "ask 11 -> error 3")

	// Tries of earlier states are on their way too; where it lets none anyhow, none is too many.
	b = full(t, 1, 10)
	wantAnswers(t, b, "bad 1024 10 -> ok", "state -> open 0 20", "ask 10 -> none", "ask 20 -> 1025", "ask 20 -> none", "ask 21 -> none", "state -> half 0 0",
		"fine 1025 21 -> ok", "state -> closed 0 0", "ask 21 -> 1026", "ask 21 -> error 3", "state -> closed 0 0", "bad 1 21 -> ok", "ask 21 -> 1027", "ask 21 -> error 3", "bad 1027 21 -> ok", "state -> open 0 31")

	// All that were let are told one by one.
	b = full(t, 1000, 10)
	for try := range retry.MaxWays {
		want(t, okText(b.Tell(try+1, try%2 == 0, 9)), "ok", "Tell", try+1)
		want(t, okText(b.Tell(try+1, try%2 == 0, 9)), "error 4", "Tell again", try+1)
	}
	wantAnswers(t, b, "state -> closed 1 0", "ask 9 -> 1025")
}

// TestLimits: just as many failures in a row as the limit says.
func TestLimits(t *testing.T) {
	for _, limit := range []int{1, 2, 3, 10, 999, 1000} {
		b := newBreaker(t, limit, 7)
		for i := range limit - 1 {
			b.Ask(3)
			b.Tell(i+1, false, 3)
			want(t, stateOf(b), fmt.Sprint("closed ", i+1, " 0"), "State", limit, i)
		}
		b.Ask(3)
		b.Tell(limit, false, 3)
		want(t, stateOf(b), "open 0 10", "State", limit)
	}
}

// TestBreakersAreApart: what one is told of, another one does not know.
func TestBreakersAreApart(t *testing.T) {
	a, b := newBreaker(t, 1, 10), newBreaker(t, 1, 10)
	wantAnswers(t, a, "ask 50 -> 1", "ask 50 -> 2", "bad 1 50 -> ok", "state -> open 0 60")
	wantAnswers(t, b, "state -> closed 0 0", "bad 2 50 -> error 4", "ask 3 -> 1", "bad 1 3 -> ok", "state -> open 0 13")
	wantAnswers(t, a, "bad 2 50 -> ok", "state -> open 0 60")
}
