package scope_test

import (
	"cmp"
	"fmt"
	"math/rand/v2"
	"slices"
	"strings"
	"testing"

	"onceweb/api"
	"onceweb/names"
	"onceweb/scope"
)

// laying is what a tree, and what it is held against, can do.
type laying interface {
	Child(parent int) (int, api.Errno)
	Add(scope int, p api.Provider) (int, api.Errno)
	Resolve(scope int, name string) (int, api.Errno)
	Cell(cell int) (int, api.Provider, api.Errno)
	Cells(scope int) ([]int, api.Errno)
	Visible(scope int) ([]int, api.Errno)
	Hidden(scope int) ([]int, api.Errno)
	Up(scope int) ([]int, api.Errno)
	Beneath(scope int) ([]int, api.Errno)
	Close(scope int) ([]int, api.Errno)
	Closed(scope int) (bool, api.Errno)
	Arrows() []api.Arrow
	Missing(scope int) ([]string, api.Errno)
	Scopes() int
}

// notes is a tree as what was done: each scope's parent, the cells, and which scopes were closed. Whatever is asked is read out of that by the chapter's words. No list of it is ever written over.
type notes struct {
	parents  []int
	cells    []api.Own
	closings []int
}

func newNotes() *notes { return &notes{parents: []int{-1}} }

func (n *notes) copied() *notes {
	return &notes{slices.Clone(n.parents), slices.Clone(n.cells), slices.Clone(n.closings)}
}

func (n *notes) none(at int) bool { return at < 0 || at > len(n.parents)-1 }

// from is the scopes from one up.
func (n *notes) from(at int) []int {
	if at == -1 {
		return nil
	}
	return append([]int{at}, n.from(n.parents[at])...)
}

func (n *notes) shut(at int) bool {
	return slices.ContainsFunc(n.from(at), func(up int) bool { return slices.Contains(n.closings, up) })
}

func (n *notes) Child(parent int) (int, api.Errno) {
	switch {
	case n.none(parent):
		return 0, api.ErrNone
	case n.shut(parent):
		return 0, api.ErrClosed
	case len(n.parents) == api.MaxScopes:
		return 0, api.ErrLong
	}
	n.parents = append(n.parents, parent)
	return len(n.parents) - 1, api.OK
}

func (n *notes) Add(at int, p api.Provider) (int, api.Errno) {
	wrong := names.CheckProvider(p)
	switch {
	case n.none(at):
		return 0, api.ErrNone
	case wrong != api.OK:
		return 0, wrong
	case n.shut(at):
		return 0, api.ErrClosed
	case slices.ContainsFunc(n.cells, func(o api.Own) bool { return o.Scope == at && o.Provider.Name == p.Name }):
		return 0, api.ErrTwice
	case len(n.cells) == api.MaxCells:
		return 0, api.ErrLong
	}
	n.cells = append(n.cells, api.Own{Scope: at, Provider: p})
	return len(n.cells) - 1, api.OK
}

func (n *notes) Resolve(at int, name string) (int, api.Errno) {
	if n.none(at) {
		return 0, api.ErrNone
	}
	for cell, o := range n.cells {
		if o.Scope == at && o.Provider.Name == name {
			return cell, api.OK
		}
	}
	return n.Resolve(n.parents[at], name)
}

func (n *notes) Cell(cell int) (int, api.Provider, api.Errno) {
	for number, o := range n.cells {
		if number == cell {
			return o.Scope, o.Provider, api.OK
		}
	}
	return 0, api.Provider{}, api.ErrNone
}

// those is the cells that are of a kind, by their numbers.
func (n *notes) those(at int, is func(cell int, o api.Own) bool) ([]int, api.Errno) {
	if n.none(at) {
		return nil, api.ErrNone
	}
	var l []int
	for cell, o := range n.cells {
		if is(cell, o) {
			l = append(l, cell)
		}
	}
	return l, api.OK
}

func (n *notes) Cells(at int) ([]int, api.Errno) {
	return n.those(at, func(_ int, o api.Own) bool { return o.Scope == at })
}

func (n *notes) sees(at, cell int) bool {
	found, e := n.Resolve(at, n.cells[cell].Provider.Name)
	return e == api.OK && found == cell
}

func (n *notes) Visible(at int) ([]int, api.Errno) {
	l, e := n.those(at, func(cell int, _ api.Own) bool { return n.sees(at, cell) })
	slices.SortFunc(l, func(a, b int) int { return cmp.Compare(n.cells[a].Provider.Name, n.cells[b].Provider.Name) })
	return l, e
}

func (n *notes) Hidden(at int) ([]int, api.Errno) {
	return n.those(at, func(cell int, o api.Own) bool { return slices.Contains(n.from(at), o.Scope) && !n.sees(at, cell) })
}

func (n *notes) Up(at int) ([]int, api.Errno) {
	if n.none(at) {
		return nil, api.ErrNone
	}
	return n.from(at), api.OK
}

// order tells which of two scopes stands ahead in closing order (below 0: the first one).
func (n *notes) order(a, b int) int {
	switch {
	case a == b:
		return 0
	case slices.Contains(n.from(a), b):
		return -1
	case slices.Contains(n.from(b), a):
		return 1
	}
	way, other := n.from(a), n.from(b)
	slices.Reverse(way)
	slices.Reverse(other)
	for place := range way {
		if way[place] != other[place] {
			return other[place] - way[place]
		}
	}
	panic("neither is beneath the other")
}

func (n *notes) Beneath(at int) ([]int, api.Errno) {
	if n.none(at) {
		return nil, api.ErrNone
	}
	var l []int
	for other := range n.parents {
		if slices.Contains(n.from(other), at) {
			l = append(l, other)
		}
	}
	slices.SortFunc(l, n.order)
	return l, api.OK
}

func (n *notes) Close(at int) ([]int, api.Errno) {
	l, e := n.Beneath(at)
	if e != api.OK {
		return nil, e
	}
	l = slices.DeleteFunc(l, n.shut)
	n.closings = append(n.closings, at)
	return l, api.OK
}

func (n *notes) Closed(at int) (bool, api.Errno) {
	if n.none(at) {
		return false, api.ErrNone
	}
	return n.shut(at), api.OK
}

func (n *notes) Arrows() []api.Arrow {
	var l []api.Arrow
	for cell, o := range n.cells {
		for _, op := range o.Provider.Expr {
			to, e := n.Resolve(o.Scope, op.Text)
			if a := (api.Arrow{From: cell, To: to}); op.Kind == api.XName && e == api.OK && !slices.Contains(l, a) {
				l = append(l, a)
			}
		}
	}
	return l
}

func (n *notes) Missing(at int) ([]string, api.Errno) {
	if n.none(at) {
		return nil, api.ErrNone
	}
	var l []string
	for _, o := range n.cells {
		for _, op := range o.Provider.Expr {
			_, e := n.Resolve(at, op.Text)
			if o.Scope == at && op.Kind == api.XName && e != api.OK && !slices.Contains(l, op.Text) {
				l = append(l, op.Text)
			}
		}
	}
	return l, api.OK
}

func (n *notes) Scopes() int { return len(n.parents) }

// someNames are names that cells of the tests have, and ask for.
var someNames = []string{"", "a", "b", "c", "d", "x", "y", "c0", "c9", "c255"}

// askedInOrder are the words of asked.
var askedInOrder = []string{"Cells", "Visible", "Hidden", "Up", "Beneath", "Closed", "Missing"}

// stateOf is all that a tree tells of itself.
func stateOf(x laying) string {
	var s strings.Builder
	fmt.Fprintf(&s, "%d scopes; arrows %s", x.Scopes(), arrowsText(x.Arrows()))
	for at := -1; at <= x.Scopes(); at++ {
		for _, call := range askedInOrder {
			fmt.Fprintf(&s, "; %s %d: %s", call, at, asked[call](x, at))
		}
		for _, name := range someNames {
			fmt.Fprintf(&s, "; %s in %d: %s", name, at, numberText(x.Resolve(at, name)))
		}
	}
	for cell, e := -1, api.OK; cell < 1 || e == api.OK; cell++ {
		_, _, e = x.Cell(cell)
		fmt.Fprintf(&s, "; Cell %d: %s", cell, cellText(x.Cell(cell)))
	}
	return s.String()
}

func wantState(t *testing.T, x, y laying, what ...any) {
	t.Helper()
	if got, wanted := stateOf(x), stateOf(y); got != wanted {
		t.Fatalf("%s:\n%s, want\n%s", strings.TrimSpace(fmt.Sprintln(what...)), got, wanted)
	}
}

// wantSame does a step with both, and holds the answers against each other.
func wantSame(t *testing.T, x *scope.Tree, n *notes, s string) {
	t.Helper()
	if got, wanted := step(x, s), step(n, s); got != wanted {
		t.Fatalf("%s: %s, want %s; ahead of it:\n%s", s, got, wanted, stateOf(n))
	}
}

// everySteps are the steps by which everywhere goes on.
var everySteps = []string{"child 0", "child 1", "child 2", "add 0 a = b", "add 1 a = x + a + b", "add 0 b = a + c + a", "add 1 b = 1", "add 2 a = [b, c, b]", "close 0", "close 1", "close 2"}

// everywhere goes on from a tree and its judge by each step, so many steps deep.
func everywhere(t *testing.T, x *scope.Tree, n *notes, deep int) {
	t.Helper()
	for _, s := range everySteps {
		nextTree, nextNotes := x.Clone(), n.copied()
		wantSame(t, nextTree, nextNotes, s)
		wantState(t, nextTree, nextNotes, s)
		if deep > 1 {
			everywhere(t, nextTree, nextNotes, deep-1)
		}
	}
	// Had a clone's steps reached the tree, it would show here.
	wantState(t, x, n, "behind its clones' steps")
}

// bothOf is a tree and its judge, of the same steps.
func bothOf(t *testing.T, steps string) (*scope.Tree, *notes) {
	t.Helper()
	x, n := scope.New(), newNotes()
	for _, s := range strings.Split(steps, ";") {
		wantSame(t, x, n, s)
	}
	return x, n
}

func TestEverywhere(t *testing.T) {
	everywhere(t, scope.New(), newNotes(), 4)
	for _, steps := range []string{"child 0; child 1; child 1; add 2 c = a", fewSteps, fewSteps + "; close 4"} {
		x, n := bothOf(t, steps)
		everywhere(t, x, n, 3)
	}
}

// eachTree goes through all trees of so many scopes, and those that have fewer.
func eachTree(t *testing.T, x *scope.Tree, n *notes, most int, do func(x *scope.Tree, n *notes)) {
	t.Helper()
	do(x, n)
	for parent := range n.Scopes() {
		if n.Scopes() < most {
			nextTree, nextNotes := x.Clone(), n.copied()
			wantSame(t, nextTree, nextNotes, fmt.Sprint("child ", parent))
			eachTree(t, nextTree, nextNotes, most, do)
		}
	}
}

func TestAllShapes(t *testing.T) {
	eachTree(t, scope.New(), newNotes(), 7, func(x *scope.Tree, n *notes) { wantState(t, x, n, n.parents) })
}

// TestAllClosings: all trees of few scopes, closed in all ways, of which three are enough to tell.
func TestAllClosings(t *testing.T) {
	eachTree(t, scope.New(), newNotes(), 5, func(x *scope.Tree, n *notes) {
		for ways := range n.Scopes() * n.Scopes() * n.Scopes() {
			nextTree, nextNotes := x.Clone(), n.copied()
			for range 3 {
				wantSame(t, nextTree, nextNotes, fmt.Sprint("close ", ways%n.Scopes()))
				wantState(t, nextTree, nextNotes, n.parents, ways)
				ways /= n.Scopes()
			}
		}
	})
}

// someStep is one by chance, mostly right, in a tree of so many scopes, of so many names.
func someStep(r *rand.Rand, scopes, most int) string {
	at := r.IntN(scopes+2) - 1
	if r.IntN(8) > 0 {
		at = r.IntN(scopes)
	}
	switch n := r.IntN(40); {
	case n == 0:
		return fmt.Sprint("close ", at)
	case n < 10:
		return fmt.Sprint("child ", at)
	}
	asks := make([]string, r.IntN(5))
	for i := range asks {
		asks[i] = someName(r, most)
	}
	return fmt.Sprintf("add %d %s = [%s]", at, someName(r, most), strings.Join(asks, ", "))
}

func someName(r *rand.Rand, most int) string {
	if r.IntN(3) == 0 {
		return someNames[1+r.IntN(6)]
	}
	return nth(r.IntN(most))
}

func TestByChance(t *testing.T) {
	r := rand.New(rand.NewPCG(18, 1))
	for range 150 {
		most := []int{2, 5, 20}[r.IntN(3)]
		x, n := scope.New(), newNotes()
		for range r.IntN(60) {
			wantSame(t, x, n, someStep(r, n.Scopes(), most))
			wantState(t, x, n, "many steps")
			if r.IntN(20) == 0 {
				x = x.Clone()
			}
		}
	}
}

func TestFullByChance(t *testing.T) {
	r := rand.New(rand.NewPCG(18, 2))
	for round := range 6 {
		x, n := scope.New(), newNotes()
		for range 1500 {
			// Closings would leave too little room for cells.
			if s := someStep(r, n.Scopes(), 60); !strings.HasPrefix(s, "close") {
				wantSame(t, x, n, s)
			}
		}
		want(t, fmt.Sprint(x.Scopes(), len(n.cells)), fmt.Sprint(api.MaxScopes, api.MaxCells), "how many there are")
		wantState(t, x, n, "a full one", round)
		wantState(t, x.Clone(), n, "a clone of a full one", round)
		for range 100 {
			wantSame(t, x, n, someStep(r, n.Scopes(), 60))
		}
		wantState(t, x, n, "a full one, behind closings", round)
	}
}
