package sched_test

import (
	"fmt"
	"math"
	"slices"
	"strconv"
	"strings"
	"testing"

	"onceweb/api"
	"onceweb/sched"
)

const (
	maxSteps = 1 << 20
	maxDepth = 64
)

func want(t *testing.T, got, wanted string, what ...any) {
	t.Helper()
	if got != wanted {
		t.Errorf("%s: %s, want %s", strings.TrimSpace(fmt.Sprintln(what...)), got, wanted)
	}
}

// readyOf reads lists of ready numbers as these tests write them: "3 1 2; 3 1" are two.
func readyOf(s string) [][]int {
	var lists [][]int
	for part := range strings.SplitSeq(s, ";") {
		var l []int
		for word := range strings.FieldsSeq(part) {
			n, err := strconv.Atoi(word)
			if err != nil {
				panic(err)
			}
			l = append(l, n)
		}
		lists = append(lists, l)
	}
	return lists
}

func listText[T any](l []T) string { return strings.Trim(fmt.Sprint(l), "[]") }

// nextText is what Next told: a number, or an error; anything beside one is odd.
func nextText(n int, e api.Errno) string {
	switch {
	case e == api.OK:
		return strconv.Itoa(n)
	case n == 0:
		return e.Error()
	}
	return fmt.Sprint("odd: ", n, e)
}

// picksText is what a scheduler tells of these, one behind the other.
func picksText(s *sched.Sched, ready [][]int) string {
	var told []string
	for _, l := range ready {
		told = append(told, nextText(s.Next(l)))
	}
	return strings.Join(told, " ")
}

// newText tells whether a scheduler was made.
func newText(s *sched.Sched, e api.Errno) string {
	switch {
	case e == api.OK && s != nil:
		return "made, " + strconv.Itoa(s.Count())
	case e != api.OK && s == nil:
		return e.Error()
	}
	return fmt.Sprint("odd: ", s != nil, e)
}

func throwsText(l []uint64, e api.Errno) string {
	switch {
	case e == api.OK:
		return listText(l)
	case len(l) == 0:
		return e.Error()
	}
	return fmt.Sprint("odd: ", l, e)
}

func made(t *testing.T) func(s *sched.Sched, e api.Errno) *sched.Sched {
	t.Helper()
	return func(s *sched.Sched, e api.Errno) *sched.Sched {
		t.Helper()
		if e != api.OK || s == nil {
			t.Fatal("refused: ", e)
		}
		return s
	}
}

// long is a list of so many of one number.
func long(many, of int) []int { return slices.Repeat([]int{of}, many) }

// with is a list, with a number at a place.
func with(l []int, place, n int) []int {
	l = slices.Clone(l)
	l[place] = n
	return l
}

// upTo is the numbers from 0 on.
func upTo(many int) []int {
	l := make([]int, many)
	for i := range l {
		l[i] = i
	}
	return l
}

// 20.1

func TestScriptedRefuses(t *testing.T) {
	most := api.MaxItems
	for _, c := range []struct {
		what   string
		list   []int
		wanted string
	}{
		{"none", nil, "made, 0"},
		{"one", []int{0}, "made, 0"},
		{"one that is great", []int{math.MaxInt}, "made, 0"},
		{"one below 0", []int{-1}, "error 1"},
		{"one far below 0", []int{math.MinInt}, "error 1"},
		{"the most", long(most, 5), "made, 0"},
		{"one more", long(most+1, 5), "error 3"},
		{"-1 first", with(long(most, 5), 0, -1), "error 1"},
		{"-1 last", with(long(most, 5), most-1, -1), "error 1"},
		{"-1 in between", []int{7, -1, 7}, "error 1"},
		{"-1 first, and too long", with(long(most+1, 5), 0, -1), "error 3"},
		{"-1 last, and too long", with(long(most+1, 5), most, -1), "error 3"},
		{"all -1, and too long", long(2*most, -1), "error 3"},
	} {
		want(t, newText(sched.Scripted(c.list)), c.wanted, "Scripted:", c.what)
	}
}

func TestPriorityRefuses(t *testing.T) {
	most := api.MaxTasks
	for _, c := range []struct {
		what    string
		weights []int
		wanted  string
	}{
		{"none", nil, "made, 0"},
		{"0", []int{0}, "made, 0"},
		{"the greatest", []int{api.MaxInt}, "made, 0"},
		{"one more than the greatest", []int{api.MaxInt + 1}, "error 1"},
		{"far more than the greatest", []int{math.MaxInt}, "error 1"},
		{"-1", []int{-1}, "error 1"},
		{"far below 0", []int{math.MinInt}, "error 1"},
		{"the most", long(most, api.MaxInt), "made, 0"},
		{"one more", long(most+1, 5), "error 3"},
		{"-1 first", with(long(most, 5), 0, -1), "error 1"},
		{"-1 last", with(long(most, 5), most-1, -1), "error 1"},
		{"too great first", with(long(most, 5), 0, api.MaxInt+1), "error 1"},
		{"too great last", with(long(most, 5), most-1, api.MaxInt+1), "error 1"},
		{"-1 first, and too long", with(long(most+1, 5), 0, -1), "error 3"},
		{"too great last, and too long", with(long(most+1, 5), most, api.MaxInt+1), "error 3"},
	} {
		want(t, newText(sched.Priority(c.weights)), c.wanted, "Priority:", c.what)
	}
}

func TestPctRefuses(t *testing.T) {
	isRight := func(steps, depth int) bool {
		return slices.Contains([]int{1, 2, maxSteps - 1, maxSteps}, steps) && slices.Contains([]int{0, 1, 63, maxDepth}, depth)
	}
	right := 0
	for _, seed := range []uint64{0, 1, math.MaxUint64} {
		for _, steps := range []int{math.MinInt, -1, 0, 1, 2, maxSteps - 1, maxSteps, maxSteps + 1, math.MaxInt} {
			for _, depth := range []int{math.MinInt, -1, 0, 1, 63, maxDepth, maxDepth + 1, math.MaxInt} {
				wanted := "error 1"
				if isRight(steps, depth) {
					wanted = "made, 0"
					right++
				}
				s, e := sched.Pct(seed, steps, depth)
				want(t, newText(s, e), wanted, "Pct of", seed, steps, depth)
				if e == api.OK {
					want(t, nextText(s.Next([]int{127})), "127", "Pct of", seed, steps, depth, "of one")
				}
			}
		}
	}
	if right != 48 {
		t.Error("right:", right)
	}
}

func TestMadeHasPickedNothing(t *testing.T) {
	for name, s := range map[string]*sched.Sched{
		"First": sched.First(), "Last": sched.Last(), "Round": sched.Round(), "Fair": sched.Fair(),
		"Seeded of 0": sched.Seeded(0), "Seeded": sched.Seeded(math.MaxUint64),
	} {
		want(t, newText(s, api.OK), "made, 0", name)
		want(t, picksText(s, readyOf("; 7; 7 7; 7")), "error 4 7 error 6 7", name)
		want(t, strconv.Itoa(s.Count()), "2", name, "and its count")
	}
}

// 20.2: what is refused.

func TestNextRefuses(t *testing.T) {
	all := upTo(api.MaxTasks)
	last := api.MaxTasks - 1
	more := append(upTo(api.MaxTasks), 5)
	cases := []struct {
		what   string
		ready  []int
		wanted string
	}{
		{"none", nil, "error 4"},
		{"empty", []int{}, "error 4"},
		{"all", all, "ok"},
		{"one more", more, "error 3"},
		{"many more", long(5000, 5), "error 3"},
		{"the least", []int{0}, "ok"},
		{"the greatest", []int{last}, "ok"},
		{"-1", []int{-1}, "error 1"},
		{"far below 0", []int{math.MinInt}, "error 1"},
		{"one too great", []int{last + 1}, "error 1"},
		{"far too great", []int{math.MaxInt}, "error 1"},
		{"twice", []int{0, 0}, "error 6"},
		{"twice, the greatest", []int{last, last}, "error 6"},
		{"twice, apart", []int{3, 9, 1, 3}, "error 6"},
		{"twice, first and last of all", with(all, last, 0), "error 6"},
		{"twice, in all that fall", falling(with(all, 0, last)), "error 6"},
		{"twice, and -1 behind", []int{3, 3, -1}, "error 1"},
		{"twice, and -1 ahead", []int{-1, 3, 3}, "error 1"},
		{"twice, and -1 between", []int{3, -1, 3}, "error 1"},
		{"-1 twice", []int{-1, -1}, "error 1"},
		{"twice, and too great behind", []int{3, 3, last + 1}, "error 1"},
		{"twice, and too great ahead", []int{last + 1, 3, 3}, "error 1"},
		{"too great twice", []int{last + 1, last + 1}, "error 1"},
		{"all, twice, and -1 behind", with(with(all, 1, 0), last, -1), "error 1"},
		{"too long, and -1 first", with(more, 0, -1), "error 3"},
		{"too long, and -1 last", with(more, last+1, -1), "error 3"},
		{"too long, twice, and too great", with(long(last+2, 7), last+1, last+1), "error 3"},
	}
	for _, place := range []int{0, 1, 64, last - 1, last} {
		cases = append(cases, []struct {
			what   string
			ready  []int
			wanted string
		}{
			{"-1 at " + strconv.Itoa(place), with(all, place, -1), "error 1"},
			{"too great at " + strconv.Itoa(place), with(all, place, last+1), "error 1"},
			{"twice at " + strconv.Itoa(place), with(all, place, (place+5)%last), "error 6"},
		}...)
	}
	for _, c := range cases {
		for name, s := range someMade(t) {
			n, e := s.Next(c.ready)
			got := nextText(n, e)
			if e == api.OK && slices.Contains(c.ready, n) {
				got = "ok"
			}
			want(t, got, c.wanted, name, "of", c.what)
		}
	}
}

func falling(l []int) []int {
	l = slices.Clone(l)
	slices.Reverse(l)
	return l
}

// Which error is told, where more than one thing is wrong: each choice of what is wrong, in some orders.
func TestNextOrderOfErrors(t *testing.T) {
	for bits := range 8 {
		ready := []int{5, 6, 8}
		wanted := "ok"
		if bits&1 != 0 {
			ready, wanted = append(ready, 6), "error 6"
		}
		if bits&2 != 0 {
			ready, wanted = append(ready, api.MaxTasks), "error 1"
		}
		if bits&4 != 0 {
			ready, wanted = append(ready, upTo(api.MaxTasks)[9:]...), "error 3"
			ready = append(ready, 0, 1, 2, 3, 4, 7, 8)
		}
		for turn := range ready {
			turned := slices.Concat(ready[turn:], ready[:turn])
			n, e := sched.Last().Next(turned)
			got := nextText(n, e)
			if e == api.OK {
				got = "ok"
			}
			want(t, got, wanted, "Next of", turned)
		}
	}
}

// A refused Next changes nothing.
func TestRefusedChangesNothing(t *testing.T) {
	wrong := [][]int{nil, {-1}, {3, 3}, {3, api.MaxTasks}, {0, 1, 2, 1}, upTo(api.MaxTasks + 1), long(api.MaxTasks+1, 3)}
	ready := readyOf("0 1 2; 0 1 2; 1 2 3; 0 3; 3 5 1; 0 1 2 3 4 5; 0 1 2 3 4 5; 9 5 0; 0 1 2; 0 1 2; 0 1 2; 1 9")
	for name := range someMade(t) {
		calm, disturbed := someMade(t)[name], someMade(t)[name]
		for number, l := range ready {
			for _, bad := range wrong {
				_, e := disturbed.Next(bad)
				if e == api.OK {
					t.Errorf("%s: Next of %v is not refused", name, bad)
				}
				want(t, strconv.Itoa(disturbed.Count()), strconv.Itoa(number), name, "and its count behind a refusal")
			}
			want(t, nextText(disturbed.Next(l)), nextText(calm.Next(l)), name, "behind refusals")
			want(t, strconv.Itoa(disturbed.Count()), strconv.Itoa(number+1), name, "and its count")
		}
	}
}

// 20.3

func TestThrowsRefuses(t *testing.T) {
	for _, seed := range []uint64{0, 1, math.MaxUint64} {
		for n, wanted := range map[int]string{
			math.MinInt: "error 1", -1: "error 1", 0: "ok", 1: "ok", 2: "ok", api.MaxItems: "ok", api.MaxItems + 1: "error 1", math.MaxInt: "error 1",
		} {
			l, e := sched.Throws(seed, n)
			got := throwsText(l, e)
			if e == api.OK && len(l) == n {
				got = "ok"
			}
			want(t, got, wanted, "Throws of", seed, n)
		}
	}
}

func TestThrows(t *testing.T) {
	for _, c := range []struct {
		seed   uint64
		wanted string
	}{
		{0, "973819730272012410 6108091081255984487 12125365036566318712"},
		{0x9e3779b97f4a7c15, "973819730272012410 6108091081255984487 12125365036566318712"},
		{1, "5180492295206395165 12380297144915551517 13389498078930870103"},
		{2, "10360984590412790330 6313850216121551418 8523403104418470859"},
		{math.MaxUint64, "17954947803125907456 10373061909235543779 3777559059212774342"},
		{1 << 63, "17367356451260989440 11923577365007871488 14691045423001764893"},
	} {
		want(t, throwsText(sched.Throws(c.seed, 3)), c.wanted, "Throws of", c.seed)
		first, _, _ := strings.Cut(c.wanted, " ")
		want(t, throwsText(sched.Throws(c.seed, 1)), first, "the first throw of", c.seed)
		want(t, throwsText(sched.Throws(c.seed, 0)), "", "no throws of", c.seed)
	}
}

// Fewer throws are the beginning of more.
func TestThrowsBegin(t *testing.T) {
	for seed := range uint64(20) {
		all, _ := sched.Throws(seed, api.MaxItems)
		for _, n := range []int{0, 1, 2, 100, api.MaxItems - 1, api.MaxItems} {
			want(t, throwsText(sched.Throws(seed, n)), listText(all[:n]), "Throws of", seed, n)
		}
	}
}
