package depend_test

import (
	"fmt"
	"slices"
	"testing"

	"onceweb/api"
	"onceweb/depend"
)

// R3: what is answered is new memory, spare room too; a clone shares nothing.

// scribble writes over all of l, its spare room too.
func scribble(l []int) {
	l = l[:cap(l)]
	for i := range l {
		l[i] = 99
	}
}

// lists are the calls that answer lists.
var lists = map[string]func(w *depend.Web) []int{
	"Stack 2":    func(w *depend.Web) []int { l, _ := w.Stack(2); return l },
	"Waiters 22": func(w *depend.Web) []int { l, _ := w.Waiters(22); return l },
	"Ask 2 11":   func(w *depend.Web) []int { l, _ := w.Ask(2, 11); return l },
	"Ask 2 23":   func(w *depend.Web) []int { l, _ := w.Ask(2, 23); return l },
	"Wait 2 11":  func(w *depend.Web) []int { l, _ := w.Wait(2, 11); return l },
	"End 2":      func(w *depend.Web) []int { _, l, _ := w.End(2); return l },
}

func TestAnswersShareNothing(t *testing.T) {
	for word, of := range lists {
		for second, next := range lists {
			w, x := after(t, stacksTwo), after(t, stacksTwo)
			scribble(of(w))
			of(x)
			want(t, wholeOf(w), wholeOf(x), "the web, its answer scribbled over:", word)
			kept := next(w)
			told := fmt.Sprint(kept)
			want(t, told, fmt.Sprint(next(x)), second, "behind", word)
			scribble(of(w))
			want(t, fmt.Sprint(kept), told, "two answers:", second, word)
		}
	}
}

// TestAnswersStay: what was answered is not changed by what comes later.
func TestAnswersStay(t *testing.T) {
	for word, of := range lists {
		w := after(t, stacksTwo)
		told := of(w)
		was := fmt.Sprint(told)
		for task := range api.MaxTasks {
			w.Wake(task)
		}
		for range 3 {
			for task := range api.MaxTasks {
				w.End(task)
				w.Begin(task, task)
				w.Begin(task, 255-task)
				w.Wait(task, (task+1)%api.MaxTasks)
			}
		}
		want(t, fmt.Sprint(told), was, "the answer of", word)
	}
}

func TestCircleSharesNothing(t *testing.T) {
	for _, of := range [][]int{{1, 2, 0, 2}, {0}, {3, 2, 1, 0}, {1, 2, 3, 4, 0}} {
		of = append(make([]int, 0, 64), of...)
		scribble(of[len(of):cap(of)])
		was, first := fmt.Sprint(of[:cap(of)]), fmt.Sprint(of)
		l, _ := depend.Circle(of)
		told := fmt.Sprint(l)
		m, _ := depend.Circle(of)
		want(t, fmt.Sprint(of[:cap(of)]), was, "Circle's argument, its spare room too")
		scribble(l)
		want(t, fmt.Sprint(m), told, "another answer")
		want(t, fmt.Sprint(of[:cap(of)]), was, "Circle's argument, the answer scribbled over")
		scribble(of)
		want(t, fmt.Sprint(m), told, first, ": the answer, its argument scribbled over")
	}
}

func TestClonesShareNothing(t *testing.T) {
	for _, calls := range []string{"", stacksTwo, deep(3, 100, api.MaxDepth)} {
		for _, first := range []string{"begin 2 30", "begin 9 31", "end 2", "wake 1", "wait 7 11", "wait 8 21", "end 3"} {
			for _, second := range []string{"begin 2 30", "begin 2 32", "begin 9 33", "end 2", "wake 4", "wait 9 11", "wait 8 22", "end 3"} {
				w, alone := after(t, calls), after(t, calls)
				was, x := wholeOf(w), w.Clone()
				want(t, wholeOf(x), was, "a clone")
				callOf(first).of(w)
				want(t, wholeOf(x), was, "a clone, behind", first, "of its web")
				behind := wholeOf(w)
				want(t, callOf(second).of(x), callOf(second).of(alone), calls, ": a clone:", second)
				want(t, wholeOf(w), behind, "a web, behind", second, "of its clone")
				want(t, wholeOf(x), wholeOf(alone), "a clone goes on as its web would:", second)
			}
		}
	}
	// Both grow by as much, so that one's spare room would be seen in the other.
	w := after(t, "begin 0 0, begin 0 1, begin 0 2, wait 1 0, wait 2 0, wait 3 0")
	x := w.Clone()
	for i := range 40 {
		w.Begin(0, 10+i)
		x.Begin(0, 60+i)
		w.Wait(4+i, 0)
		x.Wait(64+i, 0)
		l, _ := w.Stack(0)
		m, _ := x.Stack(0)
		k, _ := w.Waiters(0)
		n, _ := x.Waiters(0)
		if l[3+i] != 10+i || m[3+i] != 60+i || k[3+i] != 4+i || n[3+i] != 64+i || !slices.Equal(k[:3], n[:3]) {
			t.Fatalf("%v and %v, %v and %v", l, m, k, n)
		}
	}
}
