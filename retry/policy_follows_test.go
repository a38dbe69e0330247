package retry_test

import (
	"math/big"
	"math/rand/v2"
	"slices"
	"testing"

	"onceweb/api"
	"onceweb/names"
	"onceweb/retry"
)

// The chapter's words again, by numbers without an end: what a call answers, as told tells it.

var lastTick = big.NewInt(api.MaxTick)

// judgedPolicy asks chapter 5 whether it is right.
func judgedPolicy(p api.Policy) api.Errno {
	return names.CheckProvider(api.Provider{Name: "a", Expr: api.Expr{{Kind: api.XInt}}, Policy: p})
}

func judgedWait(p api.Policy, failures int) (*big.Int, api.Errno) {
	switch {
	case judgedPolicy(p) != api.OK:
		return nil, judgedPolicy(p)
	case failures < 1:
		return nil, api.ErrRange
	case failures >= max(1, p.Tries):
		return nil, api.ErrNone
	}
	wait := new(big.Int).Exp(big.NewInt(int64(p.Factor)), big.NewInt(int64(failures-1)), nil)
	wait.Mul(wait, big.NewInt(int64(p.Base)))
	if most := big.NewInt(int64(p.Cap)); wait.Cmp(most) > 0 {
		return most, api.OK
	}
	return wait, api.OK
}

func judgedDue(p api.Policy, failures, at int) (*big.Int, api.Errno) {
	wait, e := judgedWait(p, failures)
	if e != api.OK {
		return nil, e
	}
	if at < 0 || at > api.MaxTick {
		return nil, api.ErrRange
	}
	due := new(big.Int).Add(wait, big.NewInt(int64(at)))
	if due.Cmp(lastTick) > 0 {
		return nil, api.ErrLong
	}
	return due, api.OK
}

func toldBig(n *big.Int, e api.Errno) string {
	if e != api.OK {
		return e.Error()
	}
	return n.String()
}

func judgedMay(p api.Policy, failures, at, now int) string {
	due, e := judgedDue(p, failures, at)
	switch {
	case e != api.OK:
		return e.Error()
	case now < 0 || now > api.MaxTick:
		return "error 1"
	case big.NewInt(int64(now)).Cmp(due) >= 0:
		return "true"
	}
	return "false"
}

// gridPolicies are right.
func gridPolicies() []api.Policy {
	l := rightPolicies()
	for _, tries := range []int{1, 2, 3, 5, 63, 64} {
		for _, base := range []int{0, 1, 2, 10, 999, 1<<30 - 1, 1 << 30} {
			for _, factor := range []int{1, 2, 3, 7, 15, 16} {
				for _, most := range []int{base, base + 1, base*factor - 1, base * factor, base*factor + 1, base * factor * factor, 1 << 39, api.MaxTick - 1, api.MaxTick} {
					if most >= base && most <= api.MaxTick {
						l = append(l, policy(tries, base, factor, most))
					}
				}
			}
		}
	}
	return l
}

// chancePolicies are mostly right.
func chancePolicies(r *rand.Rand, n int) []api.Policy {
	var l []api.Policy
	for range n {
		base := int(r.Uint64N(1 << r.IntN(31)))
		p := policy(1+r.IntN(64), base, 1+r.IntN(16), min(base+int(r.Uint64N(1<<r.IntN(41))), api.MaxTick))
		switch r.IntN(12) {
		case 0:
			p.Tries += r.IntN(3) - 1
		case 1:
			p.Factor += 2 * (r.IntN(3) - 1)
		case 2:
			p.Cap = base + r.IntN(3) - 1
		}
		l = append(l, p)
	}
	return l
}

func TestWaitsAsJudged(t *testing.T) {
	r := rand.New(rand.NewPCG(12, 1))
	for _, p := range slices.Concat(gridPolicies(), wrongPolicies(), chancePolicies(r, 2000)) {
		want(t, told(0, retry.Check(p)), toldBig(new(big.Int), judgedPolicy(p)), "Check", p)
		for _, failures := range []int{-1, 0, 1, 2, 3, 4, 5, r.IntN(64), p.Tries - 2, p.Tries - 1, p.Tries, p.Tries + 1} {
			wait, e := judgedWait(p, failures)
			want(t, told(retry.Wait(p, failures)), toldBig(wait, e), "Wait", p, failures)
			ticks := 0
			if e == api.OK {
				ticks = int(wait.Int64())
			}
			for _, at := range []int{-1, 0, 1, r.IntN(api.MaxTick), api.MaxTick - ticks - 1, api.MaxTick - ticks, api.MaxTick - ticks + 1, api.MaxTick, api.MaxTick + 1} {
				want(t, told(retry.Due(p, failures, at)), toldBig(judgedDue(p, failures, at)), "Due", p, failures, at)
				for _, now := range []int{-1, 0, at, at + ticks - 1, at + ticks, at + ticks + 1, api.MaxTick, api.MaxTick + 1} {
					want(t, told(retry.May(p, failures, at, now)), judgedMay(p, failures, at, now), "May", p, failures, at, now)
				}
			}
		}
		if t.Failed() {
			return
		}
	}
}

// 12.7, held against what the calls answer alone.
func TestWaitsFollow(t *testing.T) {
	r := rand.New(rand.NewPCG(12, 2))
	for _, p := range slices.Concat(gridPolicies(), chancePolicies(r, 3000)) {
		if retry.Check(p) != api.OK {
			continue
		}
		sum, last, lastDue := 0, 0, 0
		for failures := 1; failures < p.Tries; failures++ {
			wait, e := retry.Wait(p, failures)
			if e != api.OK || wait < last || wait < p.Base || wait > p.Cap {
				t.Fatalf("%v: behind %d failures %d, %v; ahead of it %d", p, failures, wait, e, last)
			}
			due, e := retry.Due(p, failures, 0)
			if e != api.OK || due < lastDue {
				t.Fatalf("%v: behind %d failures due at %d, %v; ahead of it %d", p, failures, due, e, lastDue)
			}
			sum, last, lastDue = sum+wait, wait, due
		}
		want(t, told(retry.Total(p)), told(sum, api.OK), "Total", p)
		for _, at := range []int{0, 1, r.IntN(api.MaxTick), max(0, api.MaxTick-sum-1), max(0, api.MaxTick-sum), max(0, api.MaxTick-sum+1), api.MaxTick - 1, api.MaxTick} {
			wantTimesFollow(t, p, min(at, api.MaxTick))
		}
		if t.Failed() {
			return
		}
	}
}

// wantTimesFollow: Times begins with at, each is Due of the one ahead, and the last one has no further try that has a place.
func wantTimesFollow(t *testing.T, p api.Policy, at int) {
	t.Helper()
	l, e := retry.Times(p, at)
	if e != api.OK || len(l) == 0 || l[0] != at || len(l) > max(1, p.Tries) || !slices.IsSorted(l) {
		t.Fatalf("Times(%v, %d): %v, %v", p, at, l, e)
	}
	for i := 1; i < len(l); i++ {
		want(t, told(l[i], api.OK), told(retry.Due(p, i, l[i-1])), "Times, Due", p, at, i)
	}
	end := "error 3"
	if len(l) == max(1, p.Tries) {
		end = "error 4"
	}
	want(t, told(retry.Due(p, len(l), l[len(l)-1])), end, "Due of the last of Times", p, at)
}

// TestWhateverPolicy: P1: whatever is given, each call answers; and as the judge does.
func TestWhateverPolicy(t *testing.T) {
	for _, tries := range numbers {
		for _, base := range numbers {
			for _, factor := range numbers {
				for _, most := range numbers {
					p := policy(tries, base, factor, most)
					want(t, told(0, retry.Check(p)), toldBig(new(big.Int), judgedPolicy(p)), "Check", p)
					retry.Total(p)
					retry.Times(p, most)
					want(t, told(retry.Due(p, tries-1, base)), toldBig(judgedDue(p, tries-1, base)), "Due", p, tries-1, base)
					if t.Failed() {
						return
					}
				}
			}
		}
	}
	for _, p := range slices.Concat(rightPolicies(), wrongPolicies()) {
		for _, failures := range numbers {
			for _, at := range numbers {
				for _, now := range numbers {
					want(t, told(retry.May(p, failures, at, now)), judgedMay(p, failures, at, now), "May", p, failures, at, now)
				}
			}
		}
	}
}
