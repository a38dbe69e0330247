package scope

import (
	"iter"
	"slices"

	"onceweb/api"
)

// has tells whether there is a scope of that number.
func (t *Tree) has(scope int) bool { return scope >= 0 && scope < len(t.scopes) }

// ofScope is what ask answers of a scope, if there is one of that number.
func ofScope[T any](t *Tree, scope int, ask func(scope int) T) (T, api.Errno) {
	if !t.has(scope) {
		var nothing T
		return nothing, api.ErrNone
	}
	return ask(scope), api.OK
}

// wayUp is the scopes from one up.
func (t *Tree) wayUp(scope int) iter.Seq[int] {
	return func(yield func(int) bool) {
		for at := scope; at != nowhere; at = t.scopes[at].parent {
			if !yield(at) {
				return
			}
		}
	}
}

// ownCell is the cell of that name in the scope itself.
func (t *Tree) ownCell(scope int, name string) (int, bool) {
	number, code := t.scopes[scope].own.Find(name)
	if code != api.OK {
		return 0, false
	}
	return t.scopes[scope].cells[number], true
}

// nearest is what find finds in the first scope, from that one up, in which it finds something.
func (t *Tree) nearest(scope int, find func(scope int) (int, bool)) (int, bool) {
	for at := range t.wayUp(scope) {
		if cell, there := find(at); there {
			return cell, true
		}
	}
	return 0, false
}

// resolved is the cell to which that name resolves in a scope.
func (t *Tree) resolved(scope int, name string) (int, bool) {
	return t.nearest(scope, func(at int) (int, bool) { return t.ownCell(at, name) })
}

// provider is a copy of a cell's provider.
func (t *Tree) provider(cell int) api.Provider {
	at := t.cells[cell]
	p, _ := t.scopes[at.scope].own.Get(at.number)
	return p
}

func (t *Tree) ownCells(scope int) []int { return slices.Clone(t.scopes[scope].cells) }

func (t *Tree) isClosed(scope int) bool { return t.scopes[scope].closed }

// visible is the cells to which names resolve, by rising names.
func (t *Tree) visible(scope int) []int {
	var cells []int
	for _, name := range t.namesUp(scope) {
		cell, _ := t.resolved(scope, name)
		cells = append(cells, cell)
	}
	return cells
}

// namesUp is the names of the cells of the scopes from one up, each once, rising.
func (t *Tree) namesUp(scope int) []string {
	var all []string
	for at := range t.wayUp(scope) {
		all = append(all, t.scopes[at].own.Names()...)
	}
	slices.Sort(all)
	return slices.Compact(all)
}

// hidden is the cells from a scope up that are not visible in it, by their numbers.
func (t *Tree) hidden(scope int) []int {
	seen := t.visible(scope)
	var cells []int
	for at := range t.wayUp(scope) {
		for _, cell := range t.scopes[at].cells {
			if !slices.Contains(seen, cell) {
				cells = append(cells, cell)
			}
		}
	}
	slices.Sort(cells)
	return cells
}

func (t *Tree) up(scope int) []int { return slices.Collect(t.wayUp(scope)) }

// beneath is the scopes beneath one, in closing order.
func (t *Tree) beneath(scope int) []int {
	var all []int
	for child := len(t.scopes) - 1; child > scope; child-- {
		if t.scopes[child].parent == scope {
			all = append(all, t.beneath(child)...)
		}
	}
	return append(all, scope)
}

// shut closes all beneath a scope, and is those that were not closed yet.
func (t *Tree) shut(scope int) []int {
	open := slices.DeleteFunc(t.beneath(scope), t.isClosed)
	for _, at := range open {
		t.scopes[at].closed = true
	}
	return open
}

// missing is the names that the scope's own cells ask for and that resolve to nothing.
func (t *Tree) missing(scope int) []string {
	return slices.DeleteFunc(t.scopes[scope].own.Missing(), func(name string) bool {
		_, there := t.resolved(scope, name)
		return there
	})
}
