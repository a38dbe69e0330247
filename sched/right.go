package sched

import (
	"slices"

	"onceweb/api"
)

// isTask tells whether a number may be ready.
func isTask(n int) bool { return n >= 0 && n < api.MaxTasks }

// isMember tells whether a number may stand in a list to pick by.
func isMember(n int) bool { return n >= 0 }

// isWeight tells whether a number may be a weight that is handed in.
func isWeight(n int) bool { return n >= 0 && n <= api.MaxInt }

// checkList tells whether a list has at most so many members, and each of them is right.
func checkList(l []int, most int, isRight func(int) bool) api.Errno {
	if len(l) > most {
		return api.ErrLong
	}
	for _, n := range l {
		if !isRight(n) {
			return api.ErrRange
		}
	}
	return api.OK
}

// inOrder is the ready in order, in a list of its own.
func inOrder(ready []int) ([]int, api.Errno) {
	if code := checkList(ready, api.MaxTasks, isTask); code != api.OK {
		return nil, code
	}
	ordered := slices.Clone(ready)
	slices.Sort(ordered)
	if hasTwice(ordered) {
		return nil, api.ErrTwice
	}
	if len(ordered) == 0 {
		return nil, api.ErrNone
	}
	return ordered, api.OK
}

// hasTwice tells whether a number stands twice among some in order.
func hasTwice(ordered []int) bool {
	for place := 1; place < len(ordered); place++ {
		if ordered[place] == ordered[place-1] {
			return true
		}
	}
	return false
}
