package sched_test

import (
	"math/rand/v2"
	"slices"
	"strconv"
	"testing"

	"onceweb/api"
	"onceweb/sched"
)

// R3: what is handed in is not changed and not kept, spare room too; what is answered is new memory, spare room too.

// scribble writes over all of l, its spare room too.
func scribble[T any](l []T, by T) {
	l = l[:cap(l)]
	for i := range l {
		l[i] = by
	}
}

// spare is l, with spare room that has something in it.
func spare(l []int) []int { return append(slices.Clone(l), -77, -77, -77)[:len(l)] }

// all is what the memory of a list has, its spare room too.
func all(l []int) string { return listText(l[:cap(l)]) }

// What a scheduler is made of is left, and not kept.
func TestListsAreLeft(t *testing.T) {
	r := rand.New(rand.NewPCG(20, 14))
	makers := map[string]func(list []int) (*sched.Sched, api.Errno){"Scripted": sched.Scripted, "Priority": sched.Priority}
	for range 500 {
		for name, maker := range makers {
			ready := someReady(r, 30)
			list := spare(someNumbers(r, r.IntN(api.MaxTasks), 9))
			was := all(list)
			wanted := listText(rule{kind: name, list: slices.Clone(list)}.picks(ready))
			s, kept := made(t)(maker(list)), made(t)(maker(list))
			want(t, all(list), was, name, "and its list")
			want(t, picksText(s, ready), wanted, name, "with spare room")
			want(t, all(list), was, name, "and its list behind picks")
			copied := kept.Clone()
			scribble(list, 1)
			want(t, picksText(kept, ready), wanted, name, "its list scribbled over")
			want(t, picksText(copied, ready), wanted, name, "cloned, its list scribbled over")
			want(t, all(list), listText(long(cap(list), 1)), name, "and its list that was scribbled over")
		}
	}
	for _, bad := range [][]int{{3, -1, 2}, long(5000, 3)} {
		for name, maker := range makers {
			list := spare(bad)
			was := all(list)
			maker(list)
			want(t, all(list), was, name, "and its list that is refused")
		}
	}
}

// What is ready is left, and not kept.
func TestReadyIsLeft(t *testing.T) {
	eachSome(15, func(_ *rand.Rand, of rule, ready [][]int) {
		wanted := of.picks(ready)
		s := of.make(t)
		for number, l := range ready {
			roomy := spare(l)
			was := all(roomy)
			want(t, nextText(s.Next(roomy)), strconv.Itoa(wanted[number]), of.name(), "of", l, "with spare room")
			want(t, all(roomy), was, of.name(), "and what was ready")
			scribble(roomy, -99)
		}
	})
	for name, s := range someMade(t) {
		for _, bad := range [][]int{{}, {3, 1, -1}, {3, 2, 3}, long(5000, 1)} {
			roomy := spare(bad)
			was := all(roomy)
			s.Next(roomy)
			want(t, all(roomy), was, name, "and what was ready, and is refused")
		}
	}
}

func TestThrowsAreNew(t *testing.T) {
	first, _ := sched.Throws(5, 100)
	was := listText(first)
	second, _ := sched.Throws(5, 100)
	scribble(second, 7)
	want(t, listText(first), was, "Throws, others scribbled over")
	scribble(first, 7)
	want(t, throwsText(sched.Throws(5, 100)), was, "Throws again, others scribbled over")
	s := sched.Seeded(5)
	throws, _ := sched.Throws(5, 2)
	scribble(throws, 0)
	want(t, picksText(s, readyOf("0 1 2; 0 1 2")), listText(rule{kind: "Seeded", seed: 5}.picks(readyOf("0 1 2; 0 1 2"))), "Seeded, throws scribbled over")
}

// R6: what a scheduler picks hangs on nothing that others do: all of them side by side.
func TestSideBySide(t *testing.T) {
	r := rand.New(rand.NewPCG(20, 16))
	ready := someReady(r, 40)
	left, right := someMade(t), someMade(t)
	wanted := map[string][]int{}
	for _, of := range someRules() {
		wanted[of.name()] = of.picks(ready)
	}
	for number, l := range ready {
		for name, s := range left {
			want(t, nextText(s.Next(l)), strconv.Itoa(wanted[name][number]), name, "side by side with others")
		}
		for name, s := range right {
			want(t, nextText(s.Next(l)), strconv.Itoa(wanted[name][number]), name, "made twice")
		}
	}
}

// R2: a list without an element may be nil or empty.
func TestNilOrEmpty(t *testing.T) {
	ready := readyOf("2 1; 1 2 3; 5")
	for _, none := range [][]int{nil, {}} {
		want(t, picksText(made(t)(sched.Scripted(none)), ready), "1 1 5", "Scripted by nothing")
		want(t, picksText(made(t)(sched.Priority(none)), ready), "1 1 5", "Priority by nothing")
		for name, s := range someMade(t) {
			want(t, nextText(s.Next(none)), "error 4", name, "of nothing")
			want(t, strconv.Itoa(s.Count()), "0", name, "and its count")
		}
	}
}
