package depend_test

import (
	"fmt"
	"math"
	"slices"
	"strconv"
	"strings"
	"testing"

	"onceweb/api"
	"onceweb/depend"
)

// webbing is what a web, and what it is held against, can do.
type webbing interface {
	Begin(task, cell int) api.Errno
	End(task int) (int, []int, api.Errno)
	Ask(task, cell int) ([]int, api.Errno)
	Wait(task, cell int) ([]int, api.Errno)
	Wake(task int) api.Errno
	Stack(task int) ([]int, api.Errno)
	Runner(cell int) (int, bool, api.Errno)
	Waiting(task int) (int, bool, api.Errno)
	Waiters(cell int) ([]int, api.Errno)
}

func okText(e api.Errno) string {
	if e == api.OK {
		return "ok"
	}
	return e.Error()
}

func numbers(l []int) string {
	var words []string
	for _, n := range l {
		words = append(words, strconv.Itoa(n))
	}
	return strings.Join(words, " ")
}

// listText is a list that was answered, with the error beside it; only a circle may stand beside one.
func listText(l []int, e api.Errno) string {
	switch {
	case e == api.OK:
		return numbers(l)
	case len(l) == 0:
		return e.Error()
	}
	return numbers(l) + " " + e.Error()
}

func endText(cell int, woken []int, e api.Errno) string {
	switch {
	case e == api.OK:
		return strings.TrimSpace(fmt.Sprint(cell, ": ", listText(woken, e)))
	case cell == 0 && len(woken) == 0:
		return e.Error()
	}
	return fmt.Sprint("odd: ", cell, woken, e)
}

func numberText(n int, ok bool, e api.Errno) string {
	switch {
	case e == api.OK && ok:
		return strconv.Itoa(n)
	case n != 0 || ok:
		return fmt.Sprint("odd: ", n, ok, e)
	case e == api.OK:
		return "none"
	}
	return e.Error()
}

// call is one of a web's calls: a word and its numbers.
type call struct {
	word       string
	task, cell int
}

// callOf reads a call: a word, and behind it the task, the cell, or both.
func callOf(s string) call {
	words := strings.Fields(s)
	c := call{word: words[0]}
	numbers := []*int{&c.task, &c.cell}
	if c.word == "runner" || c.word == "waiters" {
		numbers = numbers[1:]
	}
	for i, word := range words[1:] {
		n, err := strconv.Atoi(word)
		if err != nil {
			panic(s)
		}
		*numbers[i] = n
	}
	return c
}

func (c call) of(w webbing) string {
	switch c.word {
	case "begin":
		return okText(w.Begin(c.task, c.cell))
	case "end":
		return endText(w.End(c.task))
	case "ask":
		return listText(w.Ask(c.task, c.cell))
	case "wait":
		return listText(w.Wait(c.task, c.cell))
	case "wake":
		return okText(w.Wake(c.task))
	case "stack":
		return listText(w.Stack(c.task))
	case "runner":
		return numberText(w.Runner(c.cell))
	case "waiting":
		return numberText(w.Waiting(c.task))
	case "waiters":
		return listText(w.Waiters(c.cell))
	}
	panic("no call: " + c.word)
}

// after is a web behind calls, none of which is refused.
func after(t *testing.T, calls string) *depend.Web {
	t.Helper()
	w := depend.New()
	for s := range strings.SplitSeq(calls, ",") {
		if strings.TrimSpace(s) == "" {
			continue
		}
		if got := callOf(s).of(w); strings.Contains(got, "error") {
			t.Fatalf("%s: %s: %s", calls, s, got)
		}
	}
	return w
}

// partOf is what a web tells of its first tasks and cells.
func partOf(w webbing, tasks, cells int) string {
	var s strings.Builder
	for task := range tasks {
		s.WriteString(listText(w.Stack(task)) + ">" + numberText(w.Waiting(task)) + ";")
	}
	for cell := range cells {
		s.WriteString(numberText(w.Runner(cell)) + "<" + listText(w.Waiters(cell)) + ";")
	}
	return s.String()
}

// wholeOf is all that a web tells of itself (but what Ask tells).
func wholeOf(w webbing) string { return partOf(w, api.MaxTasks, api.MaxCells) }

func want(t *testing.T, got, wanted string, what ...any) {
	t.Helper()
	if got != wanted {
		t.Errorf("%s: %s, want %s", strings.TrimSpace(fmt.Sprintln(what...)), got, wanted)
	}
}

func TestNew(t *testing.T) {
	w := depend.New()
	for task := range api.MaxTasks {
		want(t, listText(w.Stack(task))+numberText(w.Waiting(task)), "none", "task", task)
		want(t, endText(w.End(task)), "error 4", "End", task)
		want(t, okText(w.Wake(task)), "error 4", "Wake", task)
	}
	for cell := range api.MaxCells {
		want(t, numberText(w.Runner(cell))+listText(w.Waiters(cell)), "none", "cell", cell)
		want(t, listText(w.Ask(0, cell)), "", "Ask", cell)
		want(t, listText(w.Wait(0, cell)), "error 4", "Wait", cell)
	}
}

var (
	oddTasks = []int{-1, api.MaxTasks, api.MaxTasks + 1, api.MaxCells - 1, math.MinInt, math.MaxInt, 1 << 32, -api.MaxTasks}
	oddCells = []int{-1, api.MaxCells, api.MaxCells + 1, math.MinInt, math.MaxInt, 1 << 32, -api.MaxCells}
)

// 14.1: a task, a cell that is none is told ahead of all else, whatever the task does.
func TestOutOfRange(t *testing.T) {
	for _, calls := range []string{
		"",
		"begin 0 0",
		"begin 1 1, begin 0 0, wait 0 1",
		"begin 127 255",
		"begin 1 0, begin 127 255, wait 127 0",
	} {
		w := after(t, calls)
		was := wholeOf(w)
		for _, task := range oddTasks {
			for _, word := range []string{"end", "wake", "stack", "waiting"} {
				want(t, call{word: word, task: task}.of(w), "error 1", calls, ":", word, task)
			}
			for _, cell := range append([]int{0, 255}, oddCells...) {
				for _, word := range []string{"begin", "ask", "wait"} {
					want(t, call{word, task, cell}.of(w), "error 1", calls, ":", word, task, cell)
				}
			}
		}
		for _, cell := range oddCells {
			for _, word := range []string{"runner", "waiters"} {
				want(t, call{word: word, cell: cell}.of(w), "error 1", calls, ":", word, cell)
			}
			for _, task := range []int{0, 1, 127} {
				for _, word := range []string{"begin", "ask", "wait"} {
					want(t, call{word, task, cell}.of(w), "error 1", calls, ":", word, task, cell)
				}
			}
		}
		want(t, wholeOf(w), was, calls, ": the web")
	}
}

// 14.1: the least and the greatest are tasks and cells in every call.
func TestLeastAndGreatest(t *testing.T) {
	for _, task := range []int{0, api.MaxTasks - 1} {
		for _, cell := range []int{0, api.MaxCells - 1} {
			w := after(t, "begin 5 100")
			want(t, okText(w.Begin(task, cell)), "ok", "Begin", task, cell)
			want(t, listText(w.Stack(task)), strconv.Itoa(cell), "Stack", task)
			want(t, numberText(w.Runner(cell)), strconv.Itoa(task), "Runner", cell)
			want(t, listText(w.Ask(task, cell)), strconv.Itoa(cell), "Ask", task, cell)
			want(t, listText(w.Wait(task, 100)), "", "Wait", task)
			want(t, numberText(w.Waiting(task)), "100", "Waiting", task)
			want(t, listText(w.Waiters(100)), strconv.Itoa(task), "Waiters")
			want(t, okText(w.Wake(task)), "ok", "Wake", task)
			want(t, listText(w.Wait(5, cell)), "", "Wait", cell)
			want(t, listText(w.Waiters(cell)), "5", "Waiters", cell)
			want(t, endText(w.End(task)), fmt.Sprint(cell, ": 5"), "End", task)
		}
	}
}

func TestExamples(t *testing.T) {
	w := after(t, "begin 0 5, begin 0 6, begin 1 7, wait 1 5")
	for _, row := range [][2]string{
		{"ask 0 7", "7 5 6"},
		{"wait 0 7", "7 5 6 error 140"},
		{"ask 0 5", "5 6"},
		{"ask 0 6", "6"},
		{"ask 2 7", ""},
		{"end 0", "6:"},
		{"end 0", "5: 1"},
		{"waiting 1", "none"},
		{"end 1", "7:"},
	} {
		want(t, callOf(row[0]).of(w), row[1], row[0])
	}
}

// stacksTwo is two tasks with stacks, of which the first waits in the midst of the other one's, and others that wait for both.
const stacksTwo = "begin 1 11, begin 1 12, begin 1 13, begin 2 21, begin 2 22, begin 2 23, wait 1 22, wait 3 11, begin 4 41, wait 4 13, wait 5 22, wait 6 23"

// row is a call behind others: what it answers, and, if it is not refused, what calls behind it answer.
type row struct {
	calls, call, want string
	behind            []string // call = answer
}

func testRows(t *testing.T, rows []row) {
	t.Helper()
	for _, r := range rows {
		w := after(t, r.calls)
		was := wholeOf(w)
		got := callOf(r.call).of(w)
		want(t, got, r.want, r.calls, ":", r.call)
		if strings.Contains(r.want, "error") || strings.HasPrefix(r.call, "ask") {
			want(t, wholeOf(w), was, r.calls, ":", r.call, ": the web")
		}
		for _, s := range r.behind {
			next, wanted, _ := strings.Cut(s, "=")
			want(t, callOf(next).of(w), strings.TrimSpace(wanted), r.calls, ":", r.call, ":", next)
		}
	}
}

func TestBegin(t *testing.T) {
	testRows(t, []row{
		{"", "begin 3 7", "ok", []string{"stack 3 = 7", "runner 7 = 3", "waiting 3 = none", "waiters 7 =", "stack 2 =", "runner 3 = none"}},
		{"begin 3 7", "begin 3 2", "ok", []string{"stack 3 = 7 2", "runner 2 = 3", "begin 3 5 = ok", "stack 3 = 7 2 5"}},
		{"begin 3 7", "begin 4 2", "ok", []string{"stack 3 = 7", "stack 4 = 2", "runner 7 = 3", "runner 2 = 4"}},
		// Of what is run already, by the same task or by another one.
		{"begin 3 7", "begin 3 7", "error 6", nil},
		{"begin 3 7, begin 3 8", "begin 3 7", "error 6", nil},
		{"begin 0 0", "begin 0 0", "error 6", nil},
		{"begin 3 7", "begin 4 7", "error 6", nil},
		{"begin 3 7, begin 3 8", "begin 0 7", "error 6", nil},
		{stacksTwo, "begin 2 12", "error 6", nil},
		// Of what was run, and has ended.
		{"begin 3 7, end 3", "begin 3 7", "ok", []string{"stack 3 = 7", "runner 7 = 3"}},
		{"begin 3 7, end 3", "begin 4 7", "ok", []string{"stack 3 =", "stack 4 = 7", "runner 7 = 4"}},
		{"begin 3 7, begin 3 8, end 3", "begin 3 8", "ok", []string{"stack 3 = 7 8"}},
		{"begin 3 7, begin 3 8, begin 4 9, end 3, end 3, begin 3 8", "begin 3 7", "ok", []string{"stack 3 = 8 7", "stack 4 = 9"}},
		{"begin 3 7, wait 4 7, end 3", "begin 4 7", "ok", []string{"waiters 7 =", "waiting 4 = none"}},
		// By one who waits; that is told first.
		{"begin 3 7, wait 4 7", "begin 4 8", "error 7", nil},
		{"begin 3 7, wait 4 7", "begin 4 7", "error 7", nil},
		{"begin 3 7, wait 0 7", "begin 0 0", "error 7", nil},
		{stacksTwo, "begin 1 11", "error 7", nil},
		{stacksTwo, "begin 1 200", "error 7", nil},
		{"begin 3 7, begin 4 8, wait 4 7, wake 4", "begin 4 9", "ok", []string{"stack 4 = 8 9"}},
		// By one whom others wait for.
		{stacksTwo, "begin 2 24", "ok", []string{"stack 2 = 21 22 23 24", "waiters 22 = 1 5", "waiters 23 = 6", "ask 2 11 = 11 12 13 22 23 24"}},
	})
}

// deep is a task's Begin of so many cells, from one on.
func deep(task, from, n int) string {
	var calls []string
	for i := range n {
		calls = append(calls, fmt.Sprint("begin ", task, " ", from+i))
	}
	return strings.Join(calls, ", ")
}

// 14.2: a stack has at most MaxDepth cells; what is wrong besides is told ahead of it.
func TestDeep(t *testing.T) {
	full := deep(3, 100, api.MaxDepth)
	testRows(t, []row{
		{deep(3, 100, api.MaxDepth-1), "begin 3 7", "ok", []string{"runner 7 = 3", "begin 3 8 = error 141", "runner 8 = none"}},
		{full, "begin 3 7", "error 141", []string{"runner 7 = none", "begin 4 7 = ok"}},
		{full, "begin 3 100", "error 6", nil},
		{full, "begin 3 147", "error 6", nil},
		{full + ", begin 4 9", "begin 3 9", "error 6", nil},
		{full + ", begin 4 9, wait 3 9", "begin 3 9", "error 7", nil},
		{full + ", begin 4 9, wait 3 9", "begin 3 7", "error 7", nil},
		{full, "begin 3 256", "error 1", nil},
		{full + ", " + deep(4, 0, api.MaxDepth), "begin 4 200", "error 141", nil},
		{full + ", end 3", "begin 3 7", "ok", []string{"begin 3 8 = error 141", "end 3 = 7:", "begin 3 8 = ok", "end 3 = 8:", "end 3 = 146:"}},
	})
	w := after(t, full)
	l, _ := w.Stack(3)
	if len(l) != 48 || l[0] != 100 || l[47] != 147 || !slices.IsSorted(l) {
		t.Errorf("a full stack: %v", l)
	}
}

func TestEnd(t *testing.T) {
	testRows(t, []row{
		{"", "end 3", "error 4", nil},
		{"begin 4 0", "end 3", "error 4", nil},
		{"begin 3 7, end 3", "end 3", "error 4", nil},
		{"begin 3 7", "end 3", "7:", []string{"stack 3 =", "runner 7 = none", "waiters 7 ="}},
		{"begin 3 7, begin 3 8, begin 3 1", "end 3", "1:", []string{"stack 3 = 7 8", "runner 1 = none", "runner 8 = 3", "end 3 = 8:", "end 3 = 7:", "end 3 = error 4"}},
		// Of one who waits, with an empty stack too.
		{"begin 3 7, wait 4 7", "end 4", "error 7", nil},
		{"begin 3 7, begin 4 8, wait 4 7", "end 4", "error 7", nil},
		{stacksTwo, "end 1", "error 7", nil},
		{"begin 3 7, begin 4 8, wait 4 7, wake 4", "end 4", "8:", nil},
		// Who waited for it.
		{"begin 3 7, wait 4 7", "end 3", "7: 4", []string{"waiting 4 = none", "wake 4 = error 4"}},
		{"begin 3 7, wait 9 7, wait 0 7, wait 5 7", "end 3", "7: 9 0 5", []string{"waiting 9 = none", "waiting 0 = none", "waiting 5 = none", "waiters 7 ="}},
		{"begin 3 7, wait 9 7, wait 0 7, wait 5 7, wake 0", "end 3", "7: 9 5", nil},
		{"begin 3 7, wait 9 7, wait 0 7, wait 5 7, wake 9, wait 9 7", "end 3", "7: 0 5 9", nil},
		{"begin 3 7, wait 9 7, wait 0 7, wake 9, wake 0, wait 9 7, wait 0 7", "end 3", "7: 9 0", nil},
		{"begin 3 7, wait 9 7, end 3, begin 3 7, wait 2 7, wait 9 7", "end 3", "7: 2 9", nil},
		// Of others, none.
		{"begin 3 7, begin 3 8, wait 9 7, wait 5 8", "end 3", "8: 5", []string{"waiting 9 = 7", "end 3 = 7: 9"}},
		{"begin 3 7, begin 3 8, wait 9 7", "end 3", "8:", []string{"waiters 7 = 9"}},
		{"begin 3 7, begin 4 8, wait 9 7, wait 5 8", "end 4", "8: 5", []string{"waiting 9 = 7", "waiters 7 = 9"}},
		// One who was woken with a stack goes on with it.
		{"begin 3 7, begin 4 8, begin 4 9, wait 4 7", "end 3", "7: 4", []string{"stack 4 = 8 9", "begin 4 7 = ok", "stack 4 = 8 9 7"}},
		{stacksTwo, "end 2", "23: 6", []string{"end 2 = 22: 1 5", "end 1 = 13: 4", "waiting 3 = 11", "end 2 = 21:"}},
	})
}

func TestAsk(t *testing.T) {
	testRows(t, []row{
		// An empty stack; a cell that nobody runs.
		{"", "ask 3 7", "", nil},
		{"begin 4 7", "ask 3 7", "", nil},
		{"begin 4 7", "ask 4 8", "", nil},
		{"begin 0 5", "ask 0 0", "", nil},
		{"begin 0 0", "ask 1 0", "", nil},
		{"begin 4 0, begin 0 5, wait 4 5", "ask 0 7", "", nil},
		{"begin 4 0, begin 0 5", "ask 4 7", "", nil},
		// Of one who waits, whatever it asks for.
		{"begin 4 7, wait 3 7", "ask 3 7", "error 7", nil},
		{"begin 4 7, begin 3 8, wait 3 7", "ask 3 8", "error 7", nil},
		{"begin 4 7, wait 3 7", "ask 3 9", "error 7", nil},
		// In its own stack: at the bottom, in the midst, at the top.
		{"begin 3 9, begin 3 2, begin 3 5", "ask 3 9", "9 2 5", nil},
		{"begin 3 9, begin 3 2, begin 3 5", "ask 3 2", "2 5", nil},
		{"begin 3 9, begin 3 2, begin 3 5", "ask 3 5", "5", nil},
		{"begin 0 0", "ask 0 0", "0", nil},
		// Over one other task.
		{stacksTwo, "ask 2 11", "11 12 13 22 23", nil},
		{stacksTwo, "ask 2 12", "12 13 22 23", nil},
		{stacksTwo, "ask 2 13", "13 22 23", nil},
		{stacksTwo, "ask 2 21", "21 22 23", nil},
		// Over two.
		{stacksTwo, "ask 2 41", "41 13 22 23", nil},
		// Elsewhere: to what is below, to another task's top, from one whose stack is empty.
		{stacksTwo, "ask 7 11", "", nil},
		{stacksTwo + ", begin 7 70", "ask 7 11", "", nil},
		{stacksTwo + ", begin 7 70", "ask 7 41", "", nil},
		{stacksTwo + ", begin 7 70", "ask 2 70", "", nil},
		{stacksTwo + ", wake 1, wake 3", "ask 2 11", "", nil},
		{stacksTwo + ", wake 1", "ask 1 41", "41 13", nil},
		{stacksTwo + ", wake 1", "ask 1 23", "", nil},
		// A wait for the same cell, or beside it, is no way to it.
		{"begin 1 7, begin 2 8, begin 3 9, wait 3 7", "ask 2 7", "", nil},
		{"begin 1 7, begin 2 8, begin 3 9, wait 3 7", "ask 2 9", "", nil},
		{"begin 1 7, begin 2 8, begin 3 9, wait 3 7", "ask 1 9", "9 7", nil},
		{"begin 1 7, begin 2 8, begin 3 9, wait 3 7", "ask 1 8", "", nil},
	})
}

// 14.3: a way over as many tasks as there are, and over as many cells as there are.
func TestLongWays(t *testing.T) {
	w := depend.New()
	var way []int
	for task := range api.MaxTasks {
		way = append(way, 255-task)
		w.Begin(task, 255-task)
		if task > 0 {
			want(t, listText(w.Wait(task-1, 255-task)), "", "Wait", task-1)
		}
	}
	want(t, listText(w.Ask(127, 255)), listText(way, api.OK), "Ask over all tasks")
	want(t, listText(w.Wait(127, 255)), listText(way, api.ErrCycle), "Wait over all tasks")
	want(t, listText(w.Ask(127, 254)), listText(way[1:], api.OK), "Ask over all tasks but one")

	w, way = depend.New(), nil
	for cell := range api.MaxCells {
		way = append(way, cell)
		task := cell / 43
		want(t, okText(w.Begin(task, cell)), "ok", "Begin", task, cell)
		if cell%43 == 0 && task > 0 {
			want(t, listText(w.Wait(task-1, cell)), "", "Wait", task-1)
		}
	}
	want(t, listText(w.Wait(5, 0)), listText(way, api.ErrCycle), "Wait over all cells")
	want(t, listText(w.Ask(6, 0)), "", "Ask of one whose stack is empty")
}

func TestWait(t *testing.T) {
	testRows(t, []row{
		{"begin 4 7", "wait 3 7", "", []string{"waiting 3 = 7", "waiters 7 = 3", "stack 3 =", "runner 7 = 4"}},
		{"begin 4 7, begin 3 8", "wait 3 7", "", []string{"waiting 3 = 7", "stack 3 = 8", "waiters 8 ="}},
		{"begin 4 7, begin 4 8", "wait 3 7", "", []string{"waiting 3 = 7", "waiters 8 ="}},
		{"begin 4 7, wait 9 7, wait 1 7", "wait 3 7", "", []string{"waiters 7 = 9 1 3"}},
		{"begin 4 7, wait 9 7, wait 1 7, wake 9", "wait 9 7", "", []string{"waiters 7 = 1 9"}},
		{"begin 4 0", "wait 0 0", "", []string{"waiting 0 = 0", "waiters 0 = 0"}},
		// What nobody runs.
		{"", "wait 3 7", "error 4", nil},
		{"begin 3 8", "wait 3 7", "error 4", nil},
		{"begin 4 7, end 4", "wait 3 7", "error 4", nil},
		{"begin 0 5", "wait 0 0", "error 4", nil},
		// By one who waits, which is told first.
		{"begin 4 7, wait 3 7", "wait 3 7", "error 7", nil},
		{"begin 4 7, begin 4 8, wait 3 7", "wait 3 8", "error 7", nil},
		{"begin 4 7, begin 3 8, wait 3 7", "wait 3 8", "error 7", nil},
		{"begin 4 7, wait 3 7", "wait 3 9", "error 7", nil},
		{"begin 4 7, wait 0 7", "wait 0 0", "error 7", nil},
		// Circles.
		{"begin 3 9", "wait 3 9", "9 error 140", nil},
		{"begin 3 9, begin 3 2, begin 3 5", "wait 3 9", "9 2 5 error 140", nil},
		{"begin 3 9, begin 3 2, begin 3 5", "wait 3 2", "2 5 error 140", nil},
		{"begin 3 9, begin 3 2, begin 3 5", "wait 3 5", "5 error 140", nil},
		{"begin 3 9, begin 4 8, wait 4 9", "wait 3 8", "8 9 error 140", nil},
		{stacksTwo, "wait 2 11", "11 12 13 22 23 error 140", nil},
		{stacksTwo, "wait 2 13", "13 22 23 error 140", nil},
		{stacksTwo, "wait 2 41", "41 13 22 23 error 140", nil},
		// None: it leads elsewhere, or did so.
		{stacksTwo, "wait 7 11", "", []string{"waiters 11 = 3 7"}},
		{stacksTwo + ", begin 7 70", "wait 7 41", "", []string{"wait 2 70 = 70 41 13 22 23 error 140"}},
		{stacksTwo + ", begin 7 70", "wait 2 70", "", []string{"ask 7 41 = 41 13 22 23 70", "wait 7 11 = 11 12 13 22 23 70 error 140"}},
		{"begin 3 9, begin 4 8, wait 4 9, wake 4", "wait 3 8", "", []string{"wait 4 9 = 9 8 error 140"}},
		{"begin 3 9, begin 3 2, begin 4 8, wait 4 2, end 3", "wait 3 8", "", []string{"ask 4 9 = 9 8"}},
	})
}

func TestWake(t *testing.T) {
	testRows(t, []row{
		{"", "wake 3", "error 4", nil},
		{"begin 3 7", "wake 3", "error 4", nil},
		{"begin 3 7, wait 4 7", "wake 3", "error 4", nil},
		{"begin 3 7, wait 4 7", "wake 4", "ok", []string{"waiting 4 = none", "waiters 7 =", "runner 7 = 3", "wake 4 = error 4", "end 3 = 7:"}},
		{"begin 3 7, wait 4 7, wait 5 7, wait 6 7", "wake 5", "ok", []string{"waiters 7 = 4 6", "waiting 4 = 7", "waiting 6 = 7", "end 3 = 7: 4 6"}},
		{"begin 3 7, wait 4 7, wake 4", "wake 4", "error 4", nil},
		{"begin 3 7, wait 4 7, end 3", "wake 4", "error 4", nil},
		{"begin 3 7, begin 4 8, wait 4 7", "wake 4", "ok", []string{"stack 4 = 8", "end 4 = 8:"}},
		{"begin 3 0, wait 0 0", "wake 0", "ok", []string{"waiting 0 = none", "waiters 0 ="}},
	})
}
