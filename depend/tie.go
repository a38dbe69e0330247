package depend

import (
	"cmp"
	"slices"
)

// tie is what a number is tied to, if it is: a cell to the task that runs it, a task to the cell that it waits for.
type tie struct {
	to, made int // made: how many ties had been made with it; by this alone are those to one number in order
	is       bool
}

func (w *Web) newTie(to int) tie {
	w.made++
	return tie{to: to, made: w.made, is: true}
}

// tied is the numbers that are tied to one, in the order in which they were.
func tied(ties []tie, to int) []int {
	var l []int
	for number, t := range ties {
		if t.is && t.to == to {
			l = append(l, number)
		}
	}
	slices.SortFunc(l, func(a, b int) int { return cmp.Compare(ties[a].made, ties[b].made) })
	return l
}

// stack is the cells that a task runs. A stack is begun from its bottom on, so their order is that of their ties.
func (w *Web) stack(task int) []int { return tied(w.runs[:], task) }

// top is the cell on top of a task's stack, if it is not empty.
func (w *Web) top(task int) (int, bool) {
	stack := w.stack(task)
	if len(stack) == 0 {
		return 0, false
	}
	return stack[len(stack)-1], true
}

func (w *Web) waiters(cell int) []int { return tied(w.waits[:], cell) }
