package sched_test

import (
	"fmt"
	"math"
	"math/big"
	"math/rand/v2"
	"slices"
	"strconv"
	"testing"

	"onceweb/api"
	"onceweb/sched"
)

// A second reading of the chapter: what is picked is worked out of all that was picked, and was ready, from the beginning on.

// rule is a policy, and what it is made of.
type rule struct {
	kind         string
	list         []int
	seed         uint64
	steps, depth int
}

func (r rule) name() string {
	return fmt.Sprint(r.kind, r.list[:min(len(r.list), 8)], r.seed, "/", r.steps, "/", r.depth)
}

func (r rule) make(t *testing.T) *sched.Sched {
	t.Helper()
	switch r.kind {
	case "First":
		return sched.First()
	case "Last":
		return sched.Last()
	case "Round":
		return sched.Round()
	case "Fair":
		return sched.Fair()
	case "Scripted":
		return made(t)(sched.Scripted(r.list))
	case "Priority":
		return made(t)(sched.Priority(r.list))
	case "Seeded":
		return sched.Seeded(r.seed)
	}
	return made(t)(sched.Pct(r.seed, r.steps, r.depth))
}

// past is what was ready, in order, and what was picked of it.
type past struct {
	ready  [][]int
	picked []int
}

// picks is what a rule picks of these, one behind the other.
func (r rule) picks(ready [][]int) []int {
	var p past
	throws := r.throws(ready)
	for _, l := range ready {
		l = slices.Sorted(slices.Values(l))
		p.picked = append(p.picked, r.pick(p, l, throws))
		p.ready = append(p.ready, l)
	}
	return p.picked
}

// throws are at least as many as the picks of these take.
func (r rule) throws(ready [][]int) []uint64 {
	switch r.kind {
	case "Seeded":
		return judgeThrows(r.seed, len(ready))
	case "Pct":
		return judgeThrows(r.seed, r.depth+min(api.MaxTasks, len(slices.Concat(ready...))))
	}
	return nil
}

func (r rule) pick(p past, ready []int, throws []uint64) int {
	number := len(p.picked)
	switch r.kind {
	case "First":
		return slices.Min(ready)
	case "Last":
		return slices.Max(ready)
	case "Round":
		if above := slices.DeleteFunc(slices.Clone(ready), func(n int) bool { return number > 0 && n <= p.picked[number-1] }); len(above) > 0 {
			return slices.Min(above)
		}
		return slices.Min(ready)
	case "Fair":
		return leastBy(ready, func(n int) int { return count(p.picked, n) })
	case "Scripted":
		if number < len(r.list) {
			return ready[r.list[number]%len(ready)]
		}
		return ready[0]
	case "Priority":
		weights := slices.Concat(r.list, make([]int, api.MaxTasks))
		return leastBy(ready, func(n int) int { return -weights[n] })
	case "Seeded":
		return ready[int(throws[number]/(1<<33))%len(ready)]
	}
	weights := r.pctWeights(past{append(slices.Clone(p.ready), ready), p.picked}, throws)
	return leastBy(ready, func(n int) int { return -weights[n] })
}

// leastBy is the one of which least is told; of several the least.
func leastBy(ready []int, of func(n int) int) int {
	l := slices.Sorted(slices.Values(ready))
	slices.SortStableFunc(l, func(a, b int) int { return of(a) - of(b) })
	return l[0]
}

func count(l []int, n int) int {
	times := 0
	for _, other := range l {
		if other == n {
			times++
		}
	}
	return times
}

// pctWeights is the weights ahead of a pick; what is ready for it stands in the past already.
func (r rule) pctWeights(p past, throws []uint64) map[int]int {
	points := map[int]int{}
	for number, throw := range throws[:r.depth] {
		point := int(throw>>33) % r.steps
		if _, there := points[point]; !there {
			points[point] = number + 1
		}
	}
	weights, next := map[int]int{}, r.depth
	for number, ready := range p.ready {
		for _, n := range ready {
			if _, there := weights[n]; !there {
				weights[n] = int(throws[next] >> 33)
				next++
			}
		}
		if number < len(p.picked) && points[number] > 0 {
			weights[p.picked[number]] = -points[number]
		}
	}
	return weights
}

// judgeThrows is the throws by great numbers, cut to 64 bits.
func judgeThrows(seed uint64, many int) []uint64 {
	if seed == 0 {
		seed = 0x9e3779b97f4a7c15
	}
	cut := func(x *big.Int) *big.Int { return x.And(x, new(big.Int).SetUint64(math.MaxUint64)) }
	state := new(big.Int).SetUint64(seed)
	factor := new(big.Int).SetUint64(0x2545f4914f6cdd1d)
	throws := make([]uint64, many)
	for i := range throws {
		state.Xor(state, new(big.Int).Rsh(state, 12))
		state.Xor(state, cut(new(big.Int).Lsh(state, 25)))
		state.Xor(state, new(big.Int).Rsh(state, 27))
		throws[i] = cut(new(big.Int).Mul(state, factor)).Uint64()
	}
	return throws
}

// someRules are rules of each policy.
func someRules() []rule {
	rules := []rule{
		{kind: "First"}, {kind: "Last"}, {kind: "Round"}, {kind: "Fair"},
		{kind: "Scripted"}, {kind: "Scripted", list: []int{1}}, {kind: "Scripted", list: []int{5, 0, 2, 1}}, {kind: "Scripted", list: []int{math.MaxInt, 3, 3, 3, 2, 2, 1, 1}},
		{kind: "Priority"}, {kind: "Priority", list: []int{1, 5, 5}}, {kind: "Priority", list: []int{0, 0, 0, 1}}, {kind: "Priority", list: []int{api.MaxInt, 2}},
	}
	for _, seed := range []uint64{0, 1, 5, math.MaxUint64} {
		rules = append(rules, rule{kind: "Seeded", seed: seed})
	}
	for _, seed := range []uint64{0, 1, 3, 4, 5, 10} {
		for _, steps := range []int{1, 2, 3, 4, 8, maxSteps} {
			for _, depth := range []int{0, 1, 2, 3, maxDepth} {
				rules = append(rules, rule{"Pct", nil, seed, steps, depth})
			}
		}
	}
	return rules
}

// someMade are schedulers of each policy, by their rules' names, that have picked nothing.
func someMade(t *testing.T) map[string]*sched.Sched {
	t.Helper()
	all := map[string]*sched.Sched{}
	for _, r := range someRules() {
		all[r.name()] = r.make(t)
	}
	return all
}

// chanceRule is a rule by chance.
func chanceRule(r *rand.Rand) rule {
	switch r.IntN(9) {
	case 0:
		return rule{kind: "First"}
	case 1:
		return rule{kind: "Last"}
	case 2:
		return rule{kind: "Round"}
	case 3:
		return rule{kind: "Fair"}
	case 4:
		return rule{kind: "Scripted", list: someNumbers(r, r.IntN(40), 1+r.IntN(20))}
	case 5:
		return rule{kind: "Priority", list: someNumbers(r, r.IntN(api.MaxTasks+1), 1+r.IntN(5))}
	case 6:
		return rule{kind: "Seeded", seed: r.Uint64()}
	}
	return rule{"Pct", nil, r.Uint64(), 1 + r.IntN(40), r.IntN(maxDepth + 1)}
}

func someNumbers(r *rand.Rand, many, below int) []int {
	l := make([]int, many)
	for i := range l {
		l[i] = r.IntN(below)
	}
	return l
}

// someReady is lists of ready numbers that come and go, in any order; which numbers there may be, comes by chance too.
func someReady(r *rand.Rand, picks int) [][]int {
	there := r.Perm(api.MaxTasks)[:1+r.IntN(12)]
	if r.IntN(10) == 0 {
		there = r.Perm(api.MaxTasks)
	}
	share := 1 + r.IntN(10)
	ready := make([][]int, picks)
	for i := range ready {
		ready[i] = []int{there[r.IntN(len(there))]}
		for _, place := range r.Perm(len(there)) {
			if n := there[place]; n != ready[i][0] && r.IntN(10) < share {
				ready[i] = append(ready[i], n)
			}
		}
	}
	return ready
}

func wantJudged(t *testing.T, r rule, ready [][]int) {
	t.Helper()
	s := r.make(t)
	want(t, picksText(s, ready), listText(r.picks(ready)), r.name(), "of", ready)
	want(t, strconv.Itoa(s.Count()), strconv.Itoa(len(ready)), r.name(), "and its count")
}

// All that may be ready of three numbers, four times one behind the other, by some rules of each policy.
func TestJudgeSmall(t *testing.T) {
	sets := readyOf("0; 1; 2; 1 0; 2 0; 2 1; 2 0 1")
	for number, r := range someRules() {
		if number > 40 && number%7 != 0 {
			continue
		}
		for i := range 7 * 7 * 7 * 7 {
			wantJudged(t, r, [][]int{sets[i%7], sets[i/7%7], sets[i/49%7], sets[i/343]})
		}
	}
}

func TestJudgeByChance(t *testing.T) {
	r := rand.New(rand.NewPCG(20, 1))
	for range 6000 {
		wantJudged(t, chanceRule(r), someReady(r, 1+r.IntN(40)))
	}
}

// Long runs: behind the end of lists, and behind the last change point.
func TestJudgeLong(t *testing.T) {
	r := rand.New(rand.NewPCG(20, 2))
	for range 60 {
		wantJudged(t, chanceRule(r), someReady(r, 200))
	}
}

func TestJudgeThrows(t *testing.T) {
	r := rand.New(rand.NewPCG(20, 3))
	seeds := []uint64{0, 1, 2, math.MaxUint64, math.MaxInt64, 1 << 12, 1 << 25, 1 << 27, 1 << 39}
	for range 200 {
		seeds = append(seeds, r.Uint64(), 1<<r.IntN(64))
	}
	for _, seed := range seeds {
		want(t, throwsText(sched.Throws(seed, 40)), listText(judgeThrows(seed, 40)), "Throws of", seed)
	}
	want(t, throwsText(sched.Throws(7, api.MaxItems)), listText(judgeThrows(7, api.MaxItems)), "the most throws")
}
