package depend

import "slices"

// nowhere stands, in a list of what leads where, for what leads nowhere.
const nowhere = -1

// walk is the numbers from one on, each leading to the next one, as long as next tells one.
func walk(from int, next func(from int) (int, bool)) []int {
	way := []int{from}
	for to, ok := next(from); ok; to, ok = next(to) {
		way = append(way, to)
	}
	return way
}

// circle is the circle of a task, which does not wait, and a cell; none, if there is none.
func (w *Web) circle(task, cell int) []int {
	// The walk ends: waits make no circle, since Wait lets none be closed.
	way := walk(cell, func(from int) (int, bool) {
		run := w.runs[from]
		if !run.is {
			return 0, false
		}
		stack := w.stack(run.to)
		if above := slices.Index(stack, from) + 1; above < len(stack) {
			return stack[above], true
		}
		wait := w.waits[run.to]
		return wait.to, wait.is
	})
	// The top of the task's own stack leads nowhere, so a way that comes there ends there.
	if top, ok := w.top(task); ok && way[len(way)-1] == top {
		return way
	}
	return nil
}

// leastInCircles is the least number that is in a circle, if there is one.
func leastInCircles(of []int) (int, bool) {
	// By as many steps as there are numbers, every way has ended or has come into its circle; and each number in a circle is come to from one of that circle.
	far := of
	for steps := 1; steps < len(of); steps *= 2 {
		far = twice(far)
	}
	least := len(of)
	for _, to := range far {
		if to != nowhere {
			least = min(least, to)
		}
	}
	return least, least < len(of)
}

// twice is where one comes to from each number by going from i to of[i] two times.
func twice(of []int) []int {
	far := make([]int, len(of))
	for i, to := range of {
		far[i] = nowhere
		if to != nowhere {
			far[i] = of[to]
		}
	}
	return far
}
