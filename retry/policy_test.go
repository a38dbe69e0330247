package retry_test

import (
	"fmt"
	"math"
	"slices"
	"testing"

	"onceweb/api"
	"onceweb/retry"
)

func policy(tries, base, factor, most int) api.Policy {
	return api.Policy{Tries: tries, Base: base, Factor: factor, Cap: most}
}

var (
	none  = api.Policy{}
	five  = policy(5, 10, 3, 50) // the waits 10, 30, 50, 50
	once  = policy(1, 0, 1, 0)
	great = policy(64, 1<<30, 16, api.MaxTick)
)

// rightPolicies has each number at its least and its greatest.
func rightPolicies() []api.Policy {
	return []api.Policy{
		none, five, once, great,
		policy(1, 0, 1, 0), policy(64, 0, 1, 0), policy(2, 0, 16, 0),
		policy(1, 1<<30, 1, 1<<30), policy(64, 1<<30, 1, 1<<30), policy(1, 1<<30, 16, api.MaxTick),
		policy(3, 10, 2, 10), policy(3, 10, 2, 11), policy(3, 0, 2, api.MaxTick), policy(3, 10, 2, api.MaxTick-1),
	}
}

// wrongPolicies has each number one beyond, or far, with all others right; and those that are nearly all 0.
func wrongPolicies() []api.Policy {
	return []api.Policy{
		policy(0, 10, 3, 50), policy(-1, 10, 3, 50), policy(65, 10, 3, 50), policy(math.MinInt, 10, 3, 50), policy(math.MaxInt, 10, 3, 50),
		policy(5, -1, 3, 50), policy(5, 1<<30+1, 3, api.MaxTick), policy(5, math.MinInt, 3, 50), policy(5, math.MaxInt, 3, math.MaxInt),
		policy(5, 10, 0, 50), policy(5, 10, -1, 50), policy(5, 10, 17, 50), policy(5, 10, math.MinInt, 50), policy(5, 10, math.MaxInt, 50),
		policy(5, 10, 3, 9), policy(5, 10, 3, 0), policy(5, 10, 3, -1), policy(5, 10, 3, api.MaxTick+1), policy(5, 10, 3, math.MinInt), policy(5, 10, 3, math.MaxInt),
		policy(1, 0, 0, 0), policy(0, 1, 0, 1), policy(0, 0, 1, 0), policy(0, 0, 0, 1), policy(0, 1, 0, 0),
		policy(0, 0, 1, 1), policy(0, 1, 1, 1), policy(1, 0, 0, 1), policy(1, -1, 1, -1), policy(-1, -1, -1, -1),
		policy(65, -1, 17, api.MaxTick+1),
	}
}

// numbers are some that are given wherever a number is asked for.
var numbers = []int{math.MinInt, math.MinInt + 1, -api.MaxTick, -1, 0, 1, 2, 63, 64, 65, 1000, 1001, 1000000, 1000001, 1 << 30, api.MaxTick - 1, api.MaxTick, api.MaxTick + 1, math.MaxInt - 1, math.MaxInt}

// told is an answer with its error, as one text: 7, or error 4 where the rest is its zero value.
func told[T comparable](v T, e api.Errno) string {
	var zero T
	switch {
	case e == api.OK:
		return fmt.Sprint(v)
	case v == zero:
		return e.Error()
	}
	return fmt.Sprint(v, " beside ", e.Error())
}

func toldList(l []int, e api.Errno) string {
	switch {
	case e == api.OK:
		return fmt.Sprint(l)
	case len(l) == 0:
		return e.Error()
	}
	return fmt.Sprint(l, " beside ", e.Error())
}

func want(t *testing.T, got, want, what string, args ...any) {
	t.Helper()
	if got != want {
		t.Errorf("%s%v: %s, want %s", what, args, got, want)
	}
}

func TestCheck(t *testing.T) {
	for _, p := range rightPolicies() {
		want(t, told(0, retry.Check(p)), "0", "Check", p)
	}
	for _, p := range wrongPolicies() {
		want(t, told(0, retry.Check(p)), "error 50", "Check", p)
	}
}

// TestWrongPolicyFirst: a policy that is not right is told ahead of all else that is wrong.
func TestWrongPolicyFirst(t *testing.T) {
	for _, p := range wrongPolicies() {
		want(t, told(retry.Total(p)), "error 50", "Total", p)
		for _, n := range numbers {
			want(t, told(retry.Wait(p, n)), "error 50", "Wait", p, n)
			want(t, toldList(retry.Times(p, n)), "error 50", "Times", p, n)
			for _, at := range []int{-1, 0, api.MaxTick, api.MaxTick + 1} {
				want(t, told(retry.Due(p, n, at)), "error 50", "Due", p, n, at)
				want(t, told(retry.May(p, n, at, at)), "error 50", "May", p, n, at, at)
			}
		}
	}
}

func TestWait(t *testing.T) {
	rows := []struct {
		p        api.Policy
		failures int
		want     string
	}{
		{five, 1, "10"}, {five, 2, "30"}, {five, 3, "50"}, {five, 4, "50"},
		{five, 5, "error 4"}, {five, 6, "error 4"}, {five, math.MaxInt, "error 4"},
		{five, 0, "error 1"}, {five, -1, "error 1"}, {five, math.MinInt, "error 1"},
		{none, 0, "error 1"}, {none, -1, "error 1"}, {none, 1, "error 4"}, {none, 2, "error 4"}, {none, math.MaxInt, "error 4"},
		{once, 0, "error 1"}, {once, 1, "error 4"}, {once, 2, "error 4"},
		// Below the cap, at it, and above.
		{policy(9, 10, 2, 100), 3, "40"}, {policy(9, 10, 2, 100), 4, "80"}, {policy(9, 10, 2, 100), 5, "100"}, {policy(9, 10, 2, 100), 8, "100"},
		{policy(9, 10, 2, 80), 4, "80"}, {policy(9, 10, 2, 79), 4, "79"}, {policy(9, 10, 2, 81), 4, "80"}, {policy(9, 10, 2, 81), 5, "81"},
		{policy(9, 10, 2, 10), 1, "10"}, {policy(9, 10, 2, 10), 2, "10"}, {policy(9, 10, 2, 10), 8, "10"},
		// A factor of 1, and a base of 0.
		{policy(64, 7, 1, 100), 1, "7"}, {policy(64, 7, 1, 100), 63, "7"}, {policy(64, 7, 1, 7), 63, "7"},
		{policy(64, 0, 16, 100), 1, "0"}, {policy(64, 0, 16, 100), 63, "0"}, {policy(64, 0, 1, 0), 63, "0"},
		// Far above what an int holds, but for the cap.
		{great, 1, "1073741824"}, {great, 2, "17179869184"}, {great, 3, "274877906944"}, {great, 4, "1099511627776"}, {great, 5, "1099511627776"},
		{great, 15, "1099511627776"}, {great, 62, "1099511627776"}, {great, 63, "1099511627776"}, {great, 64, "error 4"},
		{policy(64, 1, 2, api.MaxTick), 40, "549755813888"}, {policy(64, 1, 2, api.MaxTick), 41, "1099511627776"}, {policy(64, 1, 2, api.MaxTick), 63, "1099511627776"},
		{policy(64, 3, 16, 1000), 63, "1000"}, {policy(64, 1<<30, 1, 1<<30), 63, "1073741824"},
		{policy(2, 5, 2, 9), 1, "5"}, {policy(2, 5, 2, 9), 2, "error 4"},
	}
	for _, r := range rows {
		want(t, told(retry.Wait(r.p, r.failures)), r.want, "Wait", r.p, r.failures)
	}
}

func TestDue(t *testing.T) {
	const last = api.MaxTick
	rows := []struct {
		p            api.Policy
		failures, at int
		want         string
	}{
		{five, 1, 0, "10"}, {five, 2, 0, "30"}, {five, 4, 7, "57"},
		{five, 1, -1, "error 1"}, {five, 1, math.MinInt, "error 1"}, {five, 1, last + 1, "error 1"}, {five, 1, math.MaxInt, "error 1"},
		// At MaxTick just, and one above.
		{five, 1, last - 11, "1099511627775"}, {five, 1, last - 10, "1099511627776"}, {five, 1, last - 9, "error 3"}, {five, 1, last, "error 3"},
		{five, 3, last - 50, "1099511627776"}, {five, 3, last - 49, "error 3"},
		{policy(2, 0, 1, 0), 1, 0, "0"}, {policy(2, 0, 1, 0), 1, last, "1099511627776"}, {policy(2, 0, 1, 0), 1, last + 1, "error 1"},
		{policy(2, 1, 1, 1), 1, last, "error 3"}, {policy(2, 1, 1, 1), 1, last - 1, "1099511627776"},
		{great, 63, 0, "1099511627776"}, {great, 63, 1, "error 3"}, {great, 63, last, "error 3"},
		// What is wrong with the failures is told ahead of the time.
		{five, 0, -1, "error 1"}, {five, 0, 0, "error 1"}, {five, 0, last, "error 1"}, {five, 5, -1, "error 4"}, {five, 5, last + 1, "error 4"}, {five, 5, 0, "error 4"}, {five, 5, last, "error 4"},
		{none, 1, 0, "error 4"}, {none, 1, -1, "error 4"}, {none, 0, 0, "error 1"}, {once, 1, 0, "error 4"}, {once, 1, math.MinInt, "error 4"},
	}
	for _, r := range rows {
		want(t, told(retry.Due(r.p, r.failures, r.at)), r.want, "Due", r.p, r.failures, r.at)
	}
}

func TestMay(t *testing.T) {
	const last = api.MaxTick
	rows := []struct {
		p                 api.Policy
		failures, at, now int
		want              string
	}{
		{five, 1, 5, 14, "false"}, {five, 1, 5, 15, "true"}, {five, 1, 5, 16, "true"}, {five, 1, 5, 0, "false"}, {five, 1, 5, last, "true"},
		{five, 4, 5, 54, "false"}, {five, 4, 5, 55, "true"},
		{five, 1, last - 10, last - 1, "false"}, {five, 1, last - 10, last, "true"},
		{five, 1, 5, -1, "error 1"}, {five, 1, 5, last + 1, "error 1"}, {five, 1, 5, math.MinInt, "error 1"}, {five, 1, 5, math.MaxInt, "error 1"},
		// Now may be ahead of at.
		{policy(2, 0, 1, 0), 1, 5, 4, "false"}, {policy(2, 0, 1, 0), 1, 5, 5, "true"}, {policy(2, 0, 1, 0), 1, 0, 0, "true"}, {policy(2, 0, 1, 0), 1, last, last, "true"},
		// Due's errors come ahead of what is wrong with now.
		{five, 0, 5, -1, "error 1"}, {five, 5, 5, -1, "error 4"}, {five, 5, -1, -1, "error 4"}, {five, 5, 5, 5, "error 4"},
		{five, 1, last, -1, "error 3"}, {five, 1, last, last + 1, "error 3"}, {five, 1, last - 9, last, "error 3"},
		{five, 1, -1, 5, "error 1"}, {five, 1, last + 1, 5, "error 1"},
		{none, 1, 0, 0, "error 4"}, {none, 1, -1, -1, "error 4"}, {none, 0, 0, 0, "error 1"}, {once, 1, 0, last, "error 4"},
	}
	for _, r := range rows {
		want(t, told(retry.May(r.p, r.failures, r.at, r.now)), r.want, "May", r.p, r.failures, r.at, r.now)
	}
}

func TestTimes(t *testing.T) {
	const last = api.MaxTick
	rows := []struct {
		p    api.Policy
		at   int
		want string
	}{
		{five, 0, "[0 10 40 90 140]"}, {five, 7, "[7 17 47 97 147]"},
		{policy(3, 10, 2, 100), 0, "[0 10 30]"},
		{none, 0, "[0]"}, {none, 7, "[7]"}, {none, last, "[1099511627776]"},
		{once, 7, "[7]"}, {policy(4, 0, 16, 99), 3, "[3 3 3 3]"}, {policy(3, 0, 2, 0), last, "[1099511627776 1099511627776 1099511627776]"},
		{five, -1, "error 1"}, {five, math.MinInt, "error 1"}, {five, last + 1, "error 1"}, {five, math.MaxInt, "error 1"}, {none, -1, "error 1"}, {none, last + 1, "error 1"},
		// All have a place just, all but the last, some, one alone.
		{five, last - 140, "[1099511627636 1099511627646 1099511627676 1099511627726 1099511627776]"},
		{five, last - 139, "[1099511627637 1099511627647 1099511627677 1099511627727]"},
		{five, last - 40, "[1099511627736 1099511627746 1099511627776]"},
		{five, last - 39, "[1099511627737 1099511627747]"},
		{five, last - 10, "[1099511627766 1099511627776]"}, {five, last - 9, "[1099511627767]"}, {five, last, "[1099511627776]"},
		{great, 0, "[0 1073741824 18253611008 293131517952]"},
		{policy(3, 1, 16, 1<<39), 0, "[0 1 17]"},
	}
	for _, r := range rows {
		want(t, toldList(retry.Times(r.p, r.at)), r.want, "Times", r.p, r.at)
	}
}

func TestTotal(t *testing.T) {
	rows := []struct {
		p    api.Policy
		want string
	}{
		{five, "140"}, {none, "0"}, {once, "0"}, {policy(1, 5, 1, 5), "0"}, {policy(2, 5, 1, 5), "5"}, {policy(64, 0, 16, api.MaxTick), "0"},
		{policy(64, 1<<30, 1, 1<<30), "67645734912"},      // 63 times 2^30
		{great, "66263829184512"},                         // 2^30, 2^34, 2^38, and 60 times 2^40: above MaxTick
		{policy(64, 1, 2, api.MaxTick), "26388279066623"}, // 2^40 - 1, and 23 times 2^40
	}
	for _, r := range rows {
		want(t, told(retry.Total(r.p)), r.want, "Total", r.p)
	}
}

// TestTimesIsNew: R3, spare room too.
func TestTimesIsNew(t *testing.T) {
	for _, p := range rightPolicies() {
		first, _ := retry.Times(p, 3)
		second, _ := retry.Times(p, 3)
		kept := slices.Clone(second)
		for i := range first[:cap(first)] {
			first[:cap(first)][i] = -7
		}
		third, e := retry.Times(p, 3)
		if !slices.Equal(second, kept) || !slices.Equal(third, kept) || e != api.OK {
			t.Errorf("%v: %v, behind it %v, want %v", p, second, third, kept)
		}
	}
}
