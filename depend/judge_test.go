package depend_test

import (
	"fmt"
	"math/rand/v2"
	"slices"
	"testing"

	"onceweb/api"
	"onceweb/depend"
)

// pair is that a task runs, or waits for, a cell.
type pair struct{ task, cell int }

// book is a web as two lists, of who runs what and who waits for what, each in the order in which that began: all that is asked of it is read out of these, by the chapter's words.
type book struct {
	runs, waits []pair
}

func (b *book) clone() *book { return &book{slices.Clone(b.runs), slices.Clone(b.waits)} }

func cellsOf(l []pair, task int) []int {
	var cells []int
	for _, p := range l {
		if p.task == task {
			cells = append(cells, p.cell)
		}
	}
	return cells
}

func tasksOf(l []pair, cell int) []int {
	var tasks []int
	for _, p := range l {
		if p.cell == cell {
			tasks = append(tasks, p.task)
		}
	}
	return tasks
}

func wrongTask(task int) bool { return task < 0 || task >= api.MaxTasks }
func wrongCell(cell int) bool { return cell < 0 || cell >= api.MaxCells }

func (b *book) Begin(task, cell int) api.Errno {
	switch {
	case wrongTask(task), wrongCell(cell):
		return api.ErrRange
	case len(cellsOf(b.waits, task)) > 0:
		return api.ErrState
	case len(tasksOf(b.runs, cell)) > 0:
		return api.ErrTwice
	case len(cellsOf(b.runs, task)) == api.MaxDepth:
		return api.ErrDeep
	}
	b.runs = append(b.runs, pair{task, cell})
	return api.OK
}

func (b *book) End(task int) (int, []int, api.Errno) {
	switch {
	case wrongTask(task):
		return 0, nil, api.ErrRange
	case len(cellsOf(b.waits, task)) > 0:
		return 0, nil, api.ErrState
	case len(cellsOf(b.runs, task)) == 0:
		return 0, nil, api.ErrNone
	}
	stack := cellsOf(b.runs, task)
	top := stack[len(stack)-1]
	woken := tasksOf(b.waits, top)
	b.runs = slices.DeleteFunc(b.runs, func(p pair) bool { return p.cell == top })
	b.waits = slices.DeleteFunc(b.waits, func(p pair) bool { return p.cell == top })
	return top, woken, api.OK
}

// leads tells whether a cell leads to another one.
func (b *book) leads(from, to int) bool {
	for _, task := range tasksOf(b.runs, from) {
		stack := cellsOf(b.runs, task)
		if at := slices.Index(stack, from); at+1 < len(stack) {
			return stack[at+1] == to
		}
		return slices.Contains(b.waits, pair{task, to})
	}
	return false
}

// circle tries all cells that are run as the next one; it comes to an end since no way has more cells than there are.
func (b *book) circle(task, cell int) []int {
	stack := cellsOf(b.runs, task)
	if len(stack) == 0 {
		return nil
	}
	way := []int{cell}
	for len(way) <= api.MaxCells {
		at := way[len(way)-1]
		if at == stack[len(stack)-1] {
			return way
		}
		next := slices.IndexFunc(b.runs, func(p pair) bool { return b.leads(at, p.cell) })
		if next < 0 {
			return nil
		}
		way = append(way, b.runs[next].cell)
	}
	panic("a way without an end")
}

func (b *book) Ask(task, cell int) ([]int, api.Errno) {
	switch {
	case wrongTask(task), wrongCell(cell):
		return nil, api.ErrRange
	case len(cellsOf(b.waits, task)) > 0:
		return nil, api.ErrState
	}
	return b.circle(task, cell), api.OK
}

func (b *book) Wait(task, cell int) ([]int, api.Errno) {
	switch {
	case wrongTask(task), wrongCell(cell):
		return nil, api.ErrRange
	case len(cellsOf(b.waits, task)) > 0:
		return nil, api.ErrState
	case len(tasksOf(b.runs, cell)) == 0:
		return nil, api.ErrNone
	case len(b.circle(task, cell)) > 0:
		return b.circle(task, cell), api.ErrCycle
	}
	b.waits = append(b.waits, pair{task, cell})
	return nil, api.OK
}

func (b *book) Wake(task int) api.Errno {
	switch {
	case wrongTask(task):
		return api.ErrRange
	case len(cellsOf(b.waits, task)) == 0:
		return api.ErrNone
	}
	b.waits = slices.DeleteFunc(b.waits, func(p pair) bool { return p.task == task })
	return api.OK
}

func (b *book) Stack(task int) ([]int, api.Errno) {
	if wrongTask(task) {
		return nil, api.ErrRange
	}
	return cellsOf(b.runs, task), api.OK
}

func (b *book) Runner(cell int) (int, bool, api.Errno) {
	if wrongCell(cell) {
		return 0, false, api.ErrRange
	}
	for _, task := range tasksOf(b.runs, cell) {
		return task, true, api.OK
	}
	return 0, false, api.OK
}

func (b *book) Waiting(task int) (int, bool, api.Errno) {
	if wrongTask(task) {
		return 0, false, api.ErrRange
	}
	for _, cell := range cellsOf(b.waits, task) {
		return cell, true, api.OK
	}
	return 0, false, api.OK
}

func (b *book) Waiters(cell int) ([]int, api.Errno) {
	if wrongCell(cell) {
		return nil, api.ErrRange
	}
	return tasksOf(b.waits, cell), api.OK
}

// wantSame makes one call of both, and holds the answers against each other.
func wantSame(t *testing.T, w *depend.Web, b *book, c call) {
	t.Helper()
	ahead := fmt.Sprintf("%+v", *b)
	if got, wanted := c.of(w), c.of(b); got != wanted {
		t.Fatalf("%s: %+v: %s, want %s", ahead, c, got, wanted)
	}
}

// changes are all calls that may change something, of few tasks and cells.
func changes(tasks, cells int) []call {
	var l []call
	for task := range tasks {
		l = append(l, call{"end", task, 0}, call{"wake", task, 0})
		for cell := range cells {
			l = append(l, call{"begin", task, cell}, call{"wait", task, cell})
		}
	}
	return l
}

// both is a web, and its judge that stands where it does.
type both struct {
	w *depend.Web
	b *book
}

// allWebs goes from an empty web by all changes to all webs of few tasks and cells that there are; each is told once.
func allWebs(tasks, cells int) []both {
	all := []both{{depend.New(), &book{}}}
	seen := map[string]bool{partOf(&book{}, tasks, cells): true}
	for i := 0; i < len(all); i++ {
		for _, c := range changes(tasks, cells) {
			b := all[i].b.clone()
			c.of(b)
			if key := partOf(b, tasks, cells); !seen[key] {
				seen[key] = true
				w := all[i].w.Clone()
				c.of(w)
				all = append(all, both{w, b})
			}
		}
	}
	return all
}

func TestEveryWeb(t *testing.T) {
	for _, few := range []struct{ tasks, cells, webs int }{{1, 3, 16}, {2, 3, 163}, {3, 2, 163}, {3, 3, 1582}, {2, 4, 1109}} {
		all := allWebs(few.tasks, few.cells)
		if len(all) != few.webs {
			t.Errorf("%+v: %d webs", few, len(all))
		}
		for _, at := range all {
			was := partOf(at.b, few.tasks, few.cells)
			want(t, partOf(at.w, few.tasks, few.cells), was, *at.b)
			for _, c := range changes(few.tasks, few.cells) {
				wantSame(t, at.w, at.b, call{"ask", c.task, c.cell})
				w, b := at.w.Clone(), at.b.clone()
				wantSame(t, w, b, c)
				want(t, partOf(w, few.tasks, few.cells), partOf(b, few.tasks, few.cells), *at.b, "behind", c)
			}
			// Had a clone's calls reached the web, it would show here.
			want(t, partOf(at.w, few.tasks, few.cells), was, *at.b, "behind its clones' calls")
			if t.Failed() {
				return
			}
		}
	}
}

// some is how a web is changed by chance: of how many tasks and cells, and how often by which call.
type some struct {
	tasks, cells, begin, end, wait int
}

func someOf(r *rand.Rand) some {
	return some{
		tasks: []int{2, 4, 10, api.MaxTasks}[r.IntN(4)],
		cells: []int{3, 10, 60, api.MaxCells}[r.IntN(4)],
		begin: 20 + r.IntN(60),
		end:   2 + r.IntN(15),
		wait:  10 + r.IntN(50),
	}
}

func (s some) call(r *rand.Rand) call {
	c := call{task: r.IntN(s.tasks), cell: r.IntN(s.cells)}
	switch r.IntN(60) {
	case 0:
		c.task = oddTasks[r.IntN(len(oddTasks))]
	case 1:
		c.cell = oddCells[r.IntN(len(oddCells))]
	}
	switch n := r.IntN(s.begin + s.end + s.wait + 10); {
	case n < s.begin:
		c.word = "begin"
	case n < s.begin+s.end:
		c.word = "end"
	case n < s.begin+s.end+s.wait:
		c.word = "wait"
	case n < s.begin+s.end+s.wait+5:
		c.word = "ask"
	default:
		c.word = "wake"
	}
	return c
}

func TestByChance(t *testing.T) {
	r := rand.New(rand.NewPCG(14, 2))
	for range 150 {
		s, w, b := someOf(r), depend.New(), &book{}
		for i := range 300 {
			wantSame(t, w, b, s.call(r))
			if r.IntN(20) == 0 {
				w = w.Clone()
			}
			if i%20 == 0 {
				if got, wanted := wholeOf(w), wholeOf(b); got != wanted {
					t.Fatalf("%+v:\n%s, want\n%s", *b, got, wanted)
				}
			}
		}
	}
}
