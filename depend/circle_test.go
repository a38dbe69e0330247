package depend_test

import (
	"fmt"
	"math"
	"math/rand/v2"
	"slices"
	"testing"

	"onceweb/api"
	"onceweb/depend"
)

func TestCircle(t *testing.T) {
	for _, row := range []struct {
		of   []int
		want string
	}{
		{nil, ""},
		{[]int{}, ""},
		{[]int{1, 2, 0, 2}, "0 1 2"},
		{[]int{1, -1}, ""},
		{[]int{-1}, ""},
		{[]int{-1, -1, -1}, ""},
		{[]int{0}, "0"},
		{[]int{3, 2, 1, 0}, "0 3"},
		// One that leads to itself, with others that lead to it.
		{[]int{1, 1}, "1"},
		{[]int{-1, 1}, "1"},
		{[]int{1, 2, 2}, "2"},
		{[]int{2, 0, 2, 1}, "2"},
		{[]int{0, 1, 2}, "0"},
		// From its least number on, wherever it is come to first.
		{[]int{3, 2, 4, 4, 1}, "1 2 4"},
		{[]int{4, 3, 1, 2, -1}, "1 3 2"},
		{[]int{2, 4, 3, 1, 2}, "1 4 2 3"},
		// Several: that with the least number, though the walk from 0 comes into another one.
		{[]int{3, 2, 1, 3}, "1 2"},
		{[]int{4, 3, 2, 1, 4}, "1 3"},
		{[]int{5, 5, 4, 2, 3, 5}, "2 4 3"},
		{[]int{4, 5, -1, 3, 4, 5}, "3"},
		// Ways that end.
		{[]int{1, 2, 3, 4, -1}, ""},
		{[]int{-1, 0, 1, 2, 3}, ""},
		{[]int{1, 2, 3, 4, 4}, "4"},
		// What is no number of it.
		{[]int{-2}, "error 1"},
		{[]int{1}, "error 1"},
		{[]int{2}, "error 1"},
		{[]int{0, 1, 3}, "error 1"},
		{[]int{0, 1, -2}, "error 1"},
		{[]int{-2, 1, 0}, "error 1"},
		{[]int{0, math.MaxInt}, "error 1"},
		{[]int{0, math.MinInt}, "error 1"},
	} {
		was := fmt.Sprint(row.of)
		want(t, listText(depend.Circle(row.of)), row.want, "Circle", row.of)
		want(t, fmt.Sprint(row.of), was, "its argument")
	}
}

// chain is n numbers, each leading to the next one, the last one to a number that is given.
func chain(n, last int) []int {
	of := make([]int, n)
	for i := range of {
		of[i] = i + 1
	}
	of[n-1] = last
	return of
}

func TestLongCircles(t *testing.T) {
	for _, n := range []int{1, 2, 3, 4, 5, 7, 8, 9, 31, 32, 33, 4095, 4096} {
		for _, back := range []int{0, n / 2, n - 1} {
			l, e := depend.Circle(chain(n, back))
			if e != api.OK || len(l) != n-back || l[0] != back || !slices.IsSorted(l) {
				t.Errorf("a chain of %d back to %d: %d of it, %v", n, back, len(l), e)
			}
		}
		want(t, listText(depend.Circle(chain(n, -1))), "", "a chain that ends, of", n)
		want(t, listText(depend.Circle(chain(n, n))), "error 1", "a chain out of its list, of", n)
		want(t, listText(depend.Circle(chain(n, -2))), "error 1", "a chain to -2, of", n)
		down := make([]int, n)
		for i := range down {
			down[i] = i - 1
		}
		want(t, listText(depend.Circle(down)), "", "a chain downwards, of", n)
	}
	for _, last := range []int{-1, 0, -2, 4097, math.MinInt} {
		want(t, listText(depend.Circle(chain(4097, last))), "error 3", "too many, the last one to", last)
	}
	want(t, listText(depend.Circle(make([]int, 1<<16))), "error 3", "far too many")
	if l, e := depend.Circle(make([]int, api.MaxItems)); e != api.OK || len(l) != 1 {
		t.Errorf("all to 0: %v, %v", l, e)
	}
}

// circleByWords goes from each number on by itself: the first one that comes to itself is the least one in any circle.
func circleByWords(of []int) []int {
	for i := range of {
		way := []int{i}
		at := of[i]
		for at >= 0 && at != i && len(way) <= len(of) {
			way = append(way, at)
			at = of[at]
		}
		if at == i {
			return way
		}
	}
	return nil
}

// TestAllLists: all lists of up to 6 members.
func TestAllLists(t *testing.T) {
	for n := range 7 {
		of := make([]int, n)
		for i := range of {
			of[i] = -1
		}
		for {
			if got, wanted := listText(depend.Circle(of)), listText(circleByWords(of), api.OK); got != wanted {
				t.Fatalf("Circle(%v): %s, want %s", of, got, wanted)
			}
			if !rise(of) {
				break
			}
		}
	}
}

// rise makes of the next list of its length, and tells whether there is one.
func rise(of []int) bool {
	for i := range of {
		if of[i]++; of[i] < len(of) {
			return true
		}
		of[i] = -1
	}
	return false
}

func TestCirclesByChance(t *testing.T) {
	r := rand.New(rand.NewPCG(14, 1))
	for range 3000 {
		of := make([]int, 1+r.IntN(100))
		ends := r.IntN(10)
		for i := range of {
			of[i] = r.IntN(len(of))
			if r.IntN(10) < ends {
				of[i] = -1
			}
		}
		if r.IntN(2) == 0 { // circles all over
			of = r.Perm(len(of))
		}
		if got, wanted := listText(depend.Circle(of)), listText(circleByWords(of), api.OK); got != wanted {
			t.Fatalf("Circle(%v): %s, want %s", of, got, wanted)
		}
	}
}
