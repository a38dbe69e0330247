package sched_test

import (
	"math"
	"strconv"
	"testing"

	"onceweb/api"
	"onceweb/sched"
)

// 20.2: what Pct picks.

// pctText is which change points Pct has, as the throws say, and what it tells of ready numbers.
func pctText(t *testing.T, seed uint64, steps, depth int, ready string) string {
	t.Helper()
	throws, _ := sched.Throws(seed, depth)
	points := make([]int, depth)
	for i, throw := range throws {
		points[i] = int(throw>>33) % steps
	}
	return listText(points) + ": " + picksText(made(t)(sched.Pct(seed, steps, depth)), readyOf(ready))
}

// The throws, shifted to the right by 33, are worked out by hand here:
// of 1: 603088677, 1441256276, 1558742727, 651824208, 120638680, 1681106405, 1747540332, 1446561404;
// of 8: 1155083711, 837137786, 241391509; of 10: 1110577896, 369434405, 2037549123, 194349102, 1804155911;
// of 154531: one that is 1 modulo 1 << 20, 1897084206, 122514935; of 280587: one that is 6 modulo 1 << 20, 960766120, 1945508468;
// of 16483856689525419047: 361247965, 1416963706, 0; of 905587319813967482: 1416963706, 0, 747863664, 1299572317.
func TestPctByHand(t *testing.T) {
	two := "0 1; 0 1; 1 0; 1 0; 0 1"
	three := "0 1 2; 2 1 0; 0 1 2; 1 2 0; 0 1 2"
	for _, c := range []struct {
		what         string
		seed         uint64
		steps, depth int
		ready        string
		wanted       string
	}{
		{"no point, two: the greatest weight goes on", 1, 5, 0, two, ": 1 1 1 1 1"},
		{"no point, three", 1, 5, 0, three, ": 2 2 2 2 2"},
		{"no point, one by one", 1, 5, 0, "2; 1; 0; 0 1 2; 0 1", ": 2 1 0 0 0"},
		{"no point, late ones", 1, 5, 0, "0; 0; 0 1; 0 1 2; 2 1 0; 0", ": 0 0 1 2 2 0"},
		{"late ones are weighed in order", 1, 5, 0, "5; 9 3; 3 9; 3 5", ": 5 9 9 3"},
		{"who comes back has its weight still", 1, 5, 0, "0 1 2; 3; 0 3; 1 0; 4; 2 4; 4 1", ": 2 3 3 1 4 2 1"},
		{"the least of late ones stands behind", 1, 5, 0, "7 8 9; 7 8 9 4; 4 7; 8 4", ": 9 9 4 8"},
		{"a point at the first pick", 1, 1, 1, two, "0: 1 0 0 0 0"},
		{"a point at the first pick, where one is ready alone", 1, 1, 1, "0; 0 1; 0; 1 0", "0: 0 1 0 1"},
		{"who fell and comes back has fallen still", 1, 1, 1, "0 1; 0; 1; 0 1; 1; 1 2; 1 0 2", "0: 1 0 1 0 1 2 0"},
		{"a point that comes five times", 1, 1, 5, two, "0 0 0 0 0: 1 0 0 0 0"},
		{"points at both picks, the second one first", 1, 2, 2, two, "1 0: 0 1 1 1 1"},
		{"points at both picks, the first one first", 10, 2, 2, two, "0 1: 0 1 0 0 0"},
		{"both at one that is ready alone: it falls twice", 1, 2, 2, "0; 0; 0 1; 1 0; 0", "1 0: 0 0 1 1 0"},
		{"a point that comes again keeps its first number", 10, 3, 3, two, "0 2 0: 1 0 0 1 1"},
		{"a point at the last pick of all steps", 8, 3, 1, two, "2: 0 0 0 1 1"},
		{"a late one stands ahead of all who fell", 1, 1, 1, "0 1; 0; 1 2; 1 2 0; 2 3", "0: 1 0 2 0 2"},
		{"a weight of 0 that was thrown stands ahead of who fell", 16483856689525419047, 1, 1, "0; 0 1; 1 0; 0", "0: 0 1 1 0"},
		{"a weight of 0 is not thrown again", 905587319813967482, 5, 0, "0 1; 1; 2; 3 0", ": 0 1 2 0"},
		{"the most steps, a point at the second pick", 154531, maxSteps, 1, two, "1: 0 0 1 1 1"},
		{"the most steps, a point at the seventh pick", 280587, maxSteps, 1, two + "; 0 1; 0 1; 0 1; 0 1", "6: 1 1 1 1 1 1 1 0 0"},
	} {
		want(t, pctText(t, c.seed, c.steps, c.depth, c.ready), c.wanted, c.what)
	}
}

// The last of the most steps is a change point of 505437; behind it come 775711618, 1187462857.
func TestPctLastStep(t *testing.T) {
	s := made(t)(sched.Pct(505437, maxSteps, 1))
	for number := range maxSteps {
		if n, e := s.Next([]int{0, 1}); n != 1 || e != api.OK {
			t.Fatal("pick", number, "is", n, e)
		}
	}
	want(t, picksText(s, readyOf("0 1; 0 1; 1")), "0 0 1", "Pct behind its last step")
	want(t, strconv.Itoa(s.Count()), strconv.Itoa(maxSteps+3), "and its count")
}

// 84 and 116 are thrown the same weight of 161986, where all are ready at once.
func TestPctSameWeight(t *testing.T) {
	s := made(t)(sched.Pct(161986, 9, 0))
	want(t, picksText(s, [][]int{falling(upTo(api.MaxTasks)), {116}, {84, 116}, {116, 84}, {116}, {84}}), "24 116 84 84 116 84", "Pct of the same weight")
	throws, _ := sched.Throws(161986, api.MaxTasks)
	if throws[84]>>33 != throws[116]>>33 {
		t.Error("the weights are not the same")
	}
}

// Every pick is a change point: each one falls, those behind whom fewest points were thrown stand ahead then.
func TestPctMostPoints(t *testing.T) {
	for seed := range uint64(300) {
		steps := 1 + int(seed)%5
		throws, _ := sched.Throws(seed, maxDepth)
		numbers := map[int]int{} // of each change point
		for number, throw := range throws {
			if point := int(throw>>33) % steps; numbers[point] == 0 {
				numbers[point] = number + 1
			}
		}
		if len(numbers) < steps {
			continue
		}
		s := made(t)(sched.Pct(seed, steps, maxDepth))
		best, least := 0, math.MaxInt
		for pick := range steps {
			n, _ := s.Next(upTo(steps))
			if numbers[pick] < least {
				best, least = n, numbers[pick]
			}
		}
		for range 3 {
			want(t, nextText(s.Next(upTo(steps))), strconv.Itoa(best), "Pct of", seed, steps, "behind all its points")
		}
	}
}
