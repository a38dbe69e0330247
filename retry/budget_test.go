package retry_test

import (
	"fmt"
	"math/rand/v2"
	"strings"
	"testing"

	"onceweb/api"
	"onceweb/retry"
)

func newBudget(t *testing.T, most, cost, gain int) *retry.Budget {
	t.Helper()
	b, e := retry.NewBudget(most, cost, gain)
	if b == nil || e != api.OK {
		t.Fatalf("NewBudget(%d, %d, %d): %v, %v", most, cost, gain, b, e)
	}
	return b
}

func budgetText(b *retry.Budget) string { return fmt.Sprint(b.Level(), " ", b.Ask()) }

func TestNewBudget(t *testing.T) {
	rows := []struct {
		most, cost, gain int
		right            bool
	}{
		{0, 0, 0, true}, {1000000, 1000000, 1000000, true}, {10, 2, 1, true}, {1000000, 0, 0, true}, {0, 1000000, 0, true}, {0, 0, 1000000, true}, {999999, 999999, 999999, true},
		{-1, 0, 0, false}, {1000001, 0, 0, false}, {0, -1, 0, false}, {0, 1000001, 0, false}, {0, 0, -1, false}, {0, 0, 1000001, false},
	}
	for _, most := range numbers {
		for _, cost := range numbers {
			for _, gain := range numbers {
				right := most >= 0 && most <= 1000000 && cost >= 0 && cost <= 1000000 && gain >= 0 && gain <= 1000000
				rows = append(rows, struct {
					most, cost, gain int
					right            bool
				}{most, cost, gain, right})
			}
		}
	}
	for _, r := range rows {
		b, e := retry.NewBudget(r.most, r.cost, r.gain)
		switch {
		case r.right && (b == nil || e != api.OK || b.Level() != r.most):
			t.Errorf("NewBudget(%d, %d, %d): %v, %v", r.most, r.cost, r.gain, b, e)
		case !r.right && (b != nil || e != api.ErrRange):
			t.Errorf("NewBudget(%d, %d, %d): %v, %v, want error 1", r.most, r.cost, r.gain, b, e)
		}
	}
}

// TestBudget: what is told, + fine and - not, and the level behind it with Ask's answer.
func TestBudget(t *testing.T) {
	rows := []struct {
		most, cost, gain int
		told, want       string
	}{
		{10, 2, 1, "", "10 true"}, {10, 2, 1, "-", "8 true"}, {10, 2, 1, "---", "4 false"}, {10, 2, 1, "---+", "5 false"}, {10, 2, 1, "---++", "6 true"},
		// Just at half of most, one above, one below; of an odd one.
		{10, 1, 1, "----", "6 true"}, {10, 1, 1, "-----", "5 false"}, {10, 1, 1, "------", "4 false"},
		{11, 1, 1, "-----", "6 true"}, {11, 1, 1, "------", "5 false"}, {1, 1, 1, "", "1 true"}, {1, 1, 1, "-", "0 false"}, {1, 1, 1, "-+", "1 true"}, {2, 1, 1, "-", "1 false"}, {3, 1, 1, "-", "2 true"}, {3, 1, 1, "--", "1 false"},
		// Of most 0.
		{0, 0, 0, "", "0 false"}, {0, 5, 5, "+", "0 false"}, {0, 5, 5, "-", "0 false"}, {0, 5, 5, "-+", "0 false"},
		// At the level 0, and at most; nearly there.
		{10, 5, 3, "--", "0 false"}, {10, 5, 3, "---", "0 false"}, {10, 5, 3, "---+", "3 false"}, {10, 4, 3, "---", "0 false"}, {10, 4, 3, "---+", "3 false"},
		{10, 5, 3, "+", "10 true"}, {10, 5, 3, "++-", "5 false"}, {10, 5, 3, "-+", "8 true"}, {10, 5, 3, "-++", "10 true"}, {10, 5, 3, "-+++-", "5 false"}, {10, 2, 1, "-++", "10 true"}, {10, 2, 2, "-+", "10 true"},
		{10, 11, 0, "-", "0 false"}, {10, 10, 10, "-+", "10 true"}, {10, 9, 0, "-", "1 false"}, {10, 0, 5, "----", "10 true"}, {10, 3, 0, "-+++", "7 true"},
		{1000000, 1000000, 1000000, "-", "0 false"}, {1000000, 1000000, 1000000, "-+", "1000000 true"}, {1000000, 1000000, 1000000, "++", "1000000 true"},
		{1000000, 500000, 1, "-", "500000 false"}, {1000000, 500000, 1, "-+", "500001 true"}, {1000000, 499999, 1, "-", "500001 true"}, {1, 1000000, 1000000, "-", "0 false"}, {1, 1000000, 1000000, "-+", "1 true"},
	}
	for _, r := range rows {
		b := newBudget(t, r.most, r.cost, r.gain)
		for _, c := range r.told {
			b.Tell(c == '+')
		}
		want(t, budgetText(b), r.want, "Budget", r.most, r.cost, r.gain, r.told)
		want(t, budgetText(b), r.want, "Budget, asked again", r.most, r.cost, r.gain, r.told)
	}
}

// wantLevels: 12.6 and 12.9, step by step: a level goes one by one, and stops where it may not go on.
func wantLevels(t *testing.T, most, cost, gain int, told string) {
	t.Helper()
	b := newBudget(t, most, cost, gain)
	level := most
	for i, c := range told {
		b.Tell(c == '+')
		if c == '+' {
			for n := 0; n < gain && level < most; n++ {
				level++
			}
		} else {
			for n := 0; n < cost && level > 0; n++ {
				level--
			}
		}
		if b.Level() < 0 || b.Level() > most {
			t.Fatalf("%d %d %d %s: the level %d", most, cost, gain, told[:i+1], b.Level())
		}
		// Above half of most is more than what is missing.
		want(t, budgetText(b), fmt.Sprint(level, " ", level > most-level), "Budget", most, cost, gain, told[:i+1])
	}
}

func TestBudgetEverywhere(t *testing.T) {
	for most := range 7 {
		for cost := range 5 {
			for gain := range 5 {
				for way := range 1 << 7 {
					told := strings.NewReplacer("0", "-", "1", "+").Replace(fmt.Sprintf("%07b", way))
					wantLevels(t, most, cost, gain, told)
				}
			}
		}
	}
}

func TestBudgetByChance(t *testing.T) {
	r := rand.New(rand.NewPCG(12, 5))
	for range 300 {
		most := 1 << r.IntN(18)
		var told strings.Builder
		for range 50 {
			told.WriteByte("+-"[r.IntN(2)])
		}
		wantLevels(t, most-r.IntN(2), r.IntN(most+1), r.IntN(most+1), told.String())
	}
}

// TestBudgetsAreApart: what one is told of, another one does not know.
func TestBudgetsAreApart(t *testing.T) {
	a, b := newBudget(t, 10, 2, 1), newBudget(t, 10, 2, 1)
	a.Tell(false)
	want(t, budgetText(a)+" "+budgetText(b), "8 true 10 true", "two budgets")
	b.Tell(false)
	b.Tell(false)
	want(t, budgetText(a)+" "+budgetText(b), "8 true 6 true", "two budgets")
}
