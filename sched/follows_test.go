package sched_test

import (
	"math"
	"math/rand/v2"
	"slices"
	"strconv"
	"testing"

	"onceweb/api"
	"onceweb/sched"
)

// next is what is picked of what may not be refused.
func next(t *testing.T, s *sched.Sched, ready []int) int {
	t.Helper()
	n, e := s.Next(ready)
	if e != api.OK {
		t.Fatalf("Next of %v: %v", ready, e)
	}
	return n
}

// eachSome tells many rules, with lists of ready numbers.
func eachSome(seed uint64, tell func(r *rand.Rand, of rule, ready [][]int)) {
	r := rand.New(rand.NewPCG(20, seed))
	for _, of := range someRules() {
		tell(r, of, someReady(r, 30))
	}
	for range 2000 {
		tell(r, chanceRule(r), someReady(r, 1+r.IntN(60)))
	}
}

// 20.4: what is picked is ready.
func TestPickedIsReady(t *testing.T) {
	eachSome(4, func(_ *rand.Rand, of rule, ready [][]int) {
		s := of.make(t)
		for _, l := range ready {
			if n := next(t, s, l); !slices.Contains(l, n) {
				t.Fatalf("%s: %d of %v", of.name(), n, l)
			}
		}
	})
}

// permutations tells each order of a list.
func permutations(l []int, tell func(l []int)) {
	if len(l) == 0 {
		tell(nil)
		return
	}
	for place, n := range l {
		rest := slices.Delete(slices.Clone(l), place, place+1)
		permutations(rest, func(l []int) { tell(slices.Concat([]int{n}, l)) })
	}
}

// 20.4: the order tells nothing: each order of a few, at every pick, and what comes of it later.
func TestOrderTellsNothing(t *testing.T) {
	sets := readyOf("3; 0 2; 2 0; 3 1 0; 2 1 3; 0 1 2 3; 1 2 9 4; 127 0; 3 2 1 0; 1 127 2")
	after := readyOf("0 1 2 3; 0 1 2 3; 0 1 2 3; 0 1 2 3 4 9 127")
	for number, of := range someRules() {
		if number > 40 && number%5 != 0 {
			continue
		}
		s := of.make(t)
		for _, set := range sets {
			wanted := picksText(s.Clone(), append([][]int{set}, after...))
			permutations(set, func(l []int) {
				want(t, picksText(s.Clone(), append([][]int{l}, after...)), wanted, of.name(), "of", l, "ahead of others")
			})
			next(t, s, set)
		}
	}
}

// 20.4: the order tells nothing: many in rising and falling order, and as it comes.
func TestOrderTellsNothingOfMany(t *testing.T) {
	eachSome(5, func(r *rand.Rand, of rule, ready [][]int) {
		asItComes, rising, fallen, shuffled := of.make(t), of.make(t), of.make(t), of.make(t)
		for _, l := range ready {
			ordered := slices.Sorted(slices.Values(l))
			other := slices.Clone(l)
			r.Shuffle(len(other), func(i, j int) { other[i], other[j] = other[j], other[i] })
			n := next(t, asItComes, l)
			if a, b, c := next(t, rising, ordered), next(t, fallen, falling(ordered)), next(t, shuffled, other); a != n || b != n || c != n {
				t.Fatalf("%s: %d, %d, %d and %d of %v", of.name(), n, a, b, c, l)
			}
		}
	})
}

// 20.2, 20.4: a clone in the middle picks as it does, and counts as it does; what either one does then changes nothing of the other.
func TestClone(t *testing.T) {
	eachSome(6, func(r *rand.Rand, of rule, ready [][]int) {
		wanted := listText(of.picks(ready))
		for _, middle := range []int{0, r.IntN(len(ready) + 1), len(ready)} {
			s := of.make(t)
			ahead := picksOf(t, s, ready[:middle])
			early, late := s.Clone(), s.Clone()
			behind := picksOf(t, early, ready[middle:])
			want(t, listText(slices.Concat(ahead, behind)), wanted, of.name(), "cloned at", middle)
			want(t, strconv.Itoa(s.Count()), strconv.Itoa(middle), of.name(), "and the count of what was cloned")
			stray(t, early.Clone(), r)
			behind = picksOf(t, s, ready[middle:])
			want(t, listText(slices.Concat(ahead, behind)), wanted, of.name(), "behind its clone at", middle)
			stray(t, s, r)
			want(t, strconv.Itoa(late.Count()), strconv.Itoa(middle), of.name(), "and the count of its clone")
			half := (middle + len(ready)) / 2
			behind = picksOf(t, late, ready[middle:half])
			stray(t, late.Clone(), r)
			behind = append(behind, picksOf(t, late.Clone(), ready[half:])...)
			want(t, listText(slices.Concat(ahead, behind)), wanted, of.name(), "a clone of its clone at", half)
			want(t, strconv.Itoa(early.Count()), strconv.Itoa(len(ready)), of.name(), "and the count of the first clone")
		}
	})
}

func picksOf(t *testing.T, s *sched.Sched, ready [][]int) []int {
	t.Helper()
	var picked []int
	for _, l := range ready {
		picked = append(picked, next(t, s, l))
	}
	return picked
}

// stray picks of other numbers.
func stray(t *testing.T, s *sched.Sched, r *rand.Rand) {
	t.Helper()
	picksOf(t, s, someReady(r, 10))
}

// Count is how many were picked, whatever the policy.
func TestCount(t *testing.T) {
	eachSome(7, func(_ *rand.Rand, of rule, ready [][]int) {
		s := of.make(t)
		for number, l := range ready {
			want(t, strconv.Itoa(s.Count()), strconv.Itoa(number), of.name(), "and its count ahead of a pick")
			next(t, s, l)
		}
		want(t, strconv.Itoa(s.Count()), strconv.Itoa(len(ready)), of.name(), "and its count")
	})
}

// distinct is how many numbers there are in lists.
func distinct(ready [][]int) int {
	return len(slices.Compact(slices.Sorted(slices.Values(slices.Concat(ready...)))))
}

// starved is one that is ready so many times one behind the other, and is not picked in these; -1, if there is none. It tells how many were looked at, too.
func starved(ready [][]int, picked []int, times int) (int, int) {
	looked := 0
	for from := range len(ready) - times + 1 {
		for _, n := range ready[from] {
			if slices.ContainsFunc(ready[from:from+times], func(l []int) bool { return !slices.Contains(l, n) }) {
				continue
			}
			looked++
			if !slices.Contains(picked[from:from+times], n) {
				return n, looked
			}
		}
	}
	return -1, looked
}

// 20.5: nobody starves by Round.
func TestRoundStarvesNobody(t *testing.T) {
	r := rand.New(rand.NewPCG(20, 8))
	looked := 0
	for range 1500 {
		ready := someReady(r, 80)
		picked := picksOf(t, sched.Round(), ready)
		n, more := starved(ready, picked, distinct(ready))
		if looked += more; n >= 0 {
			t.Fatalf("Round of %v: %v: %d starves", ready, picked, n)
		}
	}
	if looked < 10000 {
		t.Error("looked at", looked)
	}
}

// 20.5: nobody starves by Fair, where all are there from the beginning on, and who goes does not come back.
func TestFairStarvesNobody(t *testing.T) {
	r := rand.New(rand.NewPCG(20, 9))
	looked := 0
	for number := range 1500 {
		there := r.Perm(api.MaxTasks)[:1+r.IntN(12)]
		ready := make([][]int, 80)
		for i := range ready {
			if number%2 == 0 && len(there) > 1 && r.IntN(20) == 0 {
				there = there[1:]
			}
			ready[i] = slices.Clone(there)
		}
		picked := picksOf(t, sched.Fair(), ready)
		n, more := starved(ready, picked, distinct(ready))
		if looked += more; n >= 0 {
			t.Fatalf("Fair of %v: %v: %d starves", ready, picked, n)
		}
	}
	if looked < 10000 {
		t.Error("looked at", looked)
	}
}

// Where numbers are ready late, Fair lets them catch up first; whoever is ready still comes to its turn as soon as none was picked less often.
func TestFairLateOnes(t *testing.T) {
	r := rand.New(rand.NewPCG(20, 10))
	for range 1500 {
		ready := someReady(r, 80)
		picked := picksOf(t, sched.Fair(), ready)
		patience := map[int]int{} // of who is ready and waits: how many picks it may take still
		for number, n := range picked {
			waits := map[int]int{}
			for _, other := range ready[number] {
				left, there := patience[other]
				if !there {
					left = ahead(picked[:number], other)
				}
				if other != n {
					waits[other] = left - 1
				}
				if left == 0 && other != n {
					t.Fatalf("Fair of %v: %v: %d is passed over at %d", ready, picked, other, number)
				}
			}
			patience = waits
		}
	}
}

// ahead is how many picks may go to others ahead of one: each may be picked till it was so once more than that one.
func ahead(picked []int, one int) int {
	var times [api.MaxTasks]int
	for _, n := range picked {
		times[n]++
	}
	picks := 0
	for n := range api.MaxTasks {
		if n != one {
			picks += max(0, times[one]+1-times[n])
		}
	}
	return picks
}

// 20.6: Scripted by the places of what was picked picks as it does.
func TestScriptedByPlaces(t *testing.T) {
	eachSome(11, func(r *rand.Rand, of rule, ready [][]int) {
		var places, turned []int
		picked := picksOf(t, of.make(t), ready)
		for number, n := range picked {
			place := slices.Index(slices.Sorted(slices.Values(ready[number])), n)
			places = append(places, place)
			turned = append(turned, place+len(ready[number])*r.IntN(1000))
		}
		want(t, listText(picksOf(t, made(t)(sched.Scripted(places)), ready)), listText(picked), of.name(), "and Scripted by its places")
		want(t, listText(picksOf(t, made(t)(sched.Scripted(turned)), ready)), listText(picked), of.name(), "and Scripted by its places, and how many are ready some times more")
	})
}

// 20.7: no throw is 0, since no state is; nor does one come again soon.
func TestThrowsAreNotNought(t *testing.T) {
	r := rand.New(rand.NewPCG(20, 12))
	seeds := []uint64{0, 1, 2, 3, math.MaxUint64, math.MaxUint64 - 1}
	for bit := range 64 {
		seeds = append(seeds, 1<<bit)
	}
	for range 100 {
		seeds = append(seeds, r.Uint64())
	}
	for _, seed := range seeds {
		throws, e := sched.Throws(seed, api.MaxItems)
		if e != api.OK || slices.Contains(throws, 0) {
			t.Error("Throws of", seed, e, "have 0")
		}
		if slices.Sort(throws); len(slices.Compact(throws)) != api.MaxItems {
			t.Error("Throws of", seed, "come again")
		}
	}
}

// The seed 0 is as the one that the chapter puts in its place, for all who throw.
func TestSeedOfNought(t *testing.T) {
	const other = 0x9e3779b97f4a7c15
	r := rand.New(rand.NewPCG(20, 13))
	for range 100 {
		ready := someReady(r, 30)
		want(t, picksText(sched.Seeded(0), ready), picksText(sched.Seeded(other), ready), "Seeded by 0")
		a, b := made(t)(sched.Pct(0, 20, 5)), made(t)(sched.Pct(other, 20, 5))
		want(t, picksText(a, ready), picksText(b, ready), "Pct of 0")
	}
	want(t, throwsText(sched.Throws(0, 100)), throwsText(sched.Throws(other, 100)), "Throws of 0")
}
