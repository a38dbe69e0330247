package scope_test

import (
	"fmt"
	"math/rand/v2"
	"slices"
	"strconv"
	"strings"
	"testing"

	"onceweb/api"
	"onceweb/names"
	"onceweb/scope"
)

// someTree is a tree behind many steps.
func someTree(r *rand.Rand) *scope.Tree {
	x := scope.New()
	most := 1 + r.IntN(20)
	for range r.IntN(80) {
		step(x, someStep(r, x.Scopes(), most))
	}
	return x
}

// must is an answer of a call that may not be refused.
func must[T any](answer T, e api.Errno) T {
	if e != api.OK {
		panic("refused: " + e.Error())
	}
	return answer
}

func nameOf(x *scope.Tree, cell int) string {
	_, p, e := x.Cell(cell)
	return must(p, e).Name
}

func cellsOf(x *scope.Tree) int {
	for cell := 0; ; cell++ {
		if _, _, e := x.Cell(cell); e != api.OK {
			return cell
		}
	}
}

// 18.6: Visible and Hidden are, together, the cells from the scope up, each once.
func TestVisibleAndHidden(t *testing.T) {
	r := rand.New(rand.NewPCG(18, 6))
	for range 300 {
		x := someTree(r)
		for at := range x.Scopes() {
			seen, hidden := must(x.Visible(at)), must(x.Hidden(at))
			var up []int
			for _, above := range must(x.Up(at)) {
				up = append(up, must(x.Cells(above))...)
			}
			both := slices.Concat(seen, hidden)
			slices.Sort(up)
			slices.Sort(both)
			want(t, fmt.Sprint(both), fmt.Sprint(up), "Visible and Hidden of", at)
			for _, cell := range seen {
				want(t, numberText(x.Resolve(at, nameOf(x, cell))), strconv.Itoa(cell), "what a visible one's name resolves to")
			}
			for _, cell := range hidden {
				over := must(x.Resolve(at, nameOf(x, cell)))
				want(t, fmt.Sprint(over != cell, slices.Contains(seen, over)), "true true", "what hides", cell)
			}
			want(t, fmt.Sprint(slices.IsSorted(hidden)), "true", "Hidden by numbers")
			rising := slices.IsSortedFunc(seen, func(a, b int) int { return strings.Compare(nameOf(x, a), nameOf(x, b)) })
			want(t, fmt.Sprint(rising), "true", "Visible by rising names")
		}
	}
}

// 18.6: a child sees of its parent's cells all but those that it overrides.
func TestChildSees(t *testing.T) {
	r := rand.New(rand.NewPCG(18, 7))
	for range 300 {
		x := someTree(r)
		for at := 1; at < x.Scopes(); at++ {
			own := must(x.Cells(at))
			wanted := slices.Clone(own)
			for _, cell := range must(x.Visible(must(x.Up(at))[1])) {
				if !slices.ContainsFunc(own, func(over int) bool { return nameOf(x, over) == nameOf(x, cell) }) {
					wanted = append(wanted, cell)
				}
			}
			seen := must(x.Visible(at))
			slices.Sort(seen)
			slices.Sort(wanted)
			want(t, fmt.Sprint(seen), fmt.Sprint(wanted), "what a child sees", at)
		}
		root := must(x.Visible(0))
		slices.Sort(root)
		want(t, fmt.Sprint(root), fmt.Sprint(must(x.Cells(0))), "what the root sees")
	}
}

// resolved is what each name resolves to in each scope: -1, where it is nothing.
func resolved(x *scope.Tree, all []string) map[string][]int {
	cells := map[string][]int{}
	for _, name := range all {
		for at := range x.Scopes() {
			cell, e := x.Resolve(at, name)
			if e != api.OK {
				cell = -1
			}
			cells[name] = append(cells[name], cell)
		}
	}
	return cells
}

// outside is all that Add may not change.
func outside(x *scope.Tree) string {
	s := strconv.Itoa(x.Scopes())
	for at := range x.Scopes() {
		s += "; " + asked["Up"](x, at) + ", " + asked["Beneath"](x, at) + ", " + asked["Closed"](x, at)
	}
	return s
}

// 18.7: Add changes what its name resolves to beneath its scope alone, up to those that override it; nothing else.
func TestAddChanges(t *testing.T) {
	r := rand.New(rand.NewPCG(18, 8))
	for range 150 {
		x := someTree(r)
		for range 10 {
			at, name := r.IntN(x.Scopes()), someName(r, 10)
			all := append(slices.Clone(someNames), name, nth(1), nth(2))
			slices.Sort(all)
			all = slices.Compact(all)
			wanted, others := resolved(x, all), outside(x)
			cell, e := x.Add(at, providerOf(name+" = [a, b, c]"))
			if e != api.OK {
				want(t, fmt.Sprint(resolved(x, all)), fmt.Sprint(wanted), "behind a refused Add")
				continue
			}
			for _, beneath := range must(x.Beneath(at)) {
				// Whoever overrides it sees what it saw.
				if was := wanted[name][beneath]; was < 0 || !isBetween(x, beneath, at, was) {
					wanted[name][beneath] = cell
				}
			}
			want(t, fmt.Sprint(resolved(x, all)), fmt.Sprint(wanted), "behind Add of", name, "to", at)
			want(t, outside(x), others, "what Add does not change")
		}
	}
}

// isBetween tells whether a cell lies in the scope low, or above it, but beneath high.
func isBetween(x *scope.Tree, low, high, cell int) bool {
	at, _, _ := x.Cell(cell)
	way := must(x.Up(low))
	place := slices.Index(way, at)
	return place >= 0 && place < slices.Index(way, high)
}

// Cells, as they are told, never change; nor do their numbers.
func TestNumbersStay(t *testing.T) {
	r := rand.New(rand.NewPCG(18, 9))
	for range 60 {
		x := scope.New()
		var texts []string
		for range 60 {
			s := someStep(r, x.Scopes(), 20)
			cells, scopes := cellsOf(x), x.Scopes()
			told := step(x, s)
			if cellsOf(x) > cells {
				want(t, told, strconv.Itoa(len(texts)), s)
				texts = append(texts, cellText(x.Cell(cells)))
			}
			if x.Scopes() > scopes {
				want(t, told, strconv.Itoa(scopes), s)
			}
			want(t, fmt.Sprint(cellsOf(x), x.Scopes() >= scopes), fmt.Sprint(len(texts), true), "how many there are behind", s)
			for cell, text := range texts {
				want(t, cellText(x.Cell(cell)), text, "Cell", cell)
			}
		}
	}
}

// 18.8: Close tells each scope at most once over all calls; what is beneath a closed one is closed.
func TestClosedOnce(t *testing.T) {
	r := rand.New(rand.NewPCG(18, 10))
	for range 300 {
		x := someTree(r)
		told := map[int]int{}
		for at := range x.Scopes() {
			if must(x.Closed(at)) {
				told[at]++
			}
		}
		for range 30 {
			if r.IntN(3) == 0 {
				x.Child(r.IntN(x.Scopes()))
			}
			at := r.IntN(x.Scopes())
			for _, closed := range must(x.Close(at)) {
				told[closed]++
				want(t, fmt.Sprint(slices.Contains(must(x.Up(closed)), at)), "true", closed, "is beneath", at)
			}
			for of := range x.Scopes() {
				want(t, fmt.Sprint(must(x.Closed(of))), fmt.Sprint(told[of] == 1), "Closed", of, "told so often:", told[of])
			}
			for _, beneath := range must(x.Beneath(at)) {
				want(t, fmt.Sprint(must(x.Closed(beneath))), "true", "Closed of what is beneath", at)
				want(t, numberText(x.Child(beneath)), "error 8", "Child beneath", at)
				want(t, numberText(x.Add(beneath, providerOf("new = 1"))), "error 8", "Add beneath", at)
			}
		}
	}
}

// What is beneath stands ahead in closing order; of two children the later one does, with all beneath it.
func TestClosingOrder(t *testing.T) {
	r := rand.New(rand.NewPCG(18, 11))
	for range 300 {
		x := someTree(r)
		for at := range x.Scopes() {
			all := must(x.Beneath(at))
			want(t, strconv.Itoa(all[len(all)-1]), strconv.Itoa(at), "the last one of Beneath")
			for place, one := range all {
				inner := must(x.Beneath(one))
				want(t, fmt.Sprint(all[place+1-len(inner):place+1]), fmt.Sprint(inner), "all beneath", one, "stand together")
				for _, later := range all[place+1:] {
					up, other := must(x.Up(one)), must(x.Up(later))
					if len(up) > 1 && len(other) > 1 && up[1] == other[1] {
						want(t, fmt.Sprint(one > later), "true", "children of one scope:", one, later)
					}
				}
			}
		}
	}
}

// Arrows and Missing tell each name that is asked for once, of each cell and of each scope.
func TestArrowsAndMissing(t *testing.T) {
	r := rand.New(rand.NewPCG(18, 12))
	for range 300 {
		x := someTree(r)
		arrows := x.Arrows()
		missing := make([][]string, x.Scopes())
		for cell := range cellsOf(x) {
			at, p, _ := x.Cell(cell)
			for _, name := range must(names.Asked(p.Expr)) {
				to, e := x.Resolve(at, name)
				if e != api.OK {
					if !slices.Contains(missing[at], name) {
						missing[at] = append(missing[at], name)
					}
					continue
				}
				if len(arrows) == 0 || arrows[0] != (api.Arrow{From: cell, To: to}) {
					t.Fatalf("%d asks for %d, left of Arrows: %v", cell, to, arrows)
				}
				arrows = arrows[1:]
			}
		}
		want(t, arrowsText(arrows), "", "Arrows that nobody asks for")
		for at, l := range missing {
			want(t, asked["Missing"](x, at), listText(l, api.OK), "Missing of", at)
		}
	}
}

// refused are steps and providers that a tree refuses, told of it.
func refused(x *scope.Tree) []string {
	var told []string
	last := x.Scopes()
	for _, at := range []int{-1, last, last + 1, 99} {
		told = append(told, numberText(x.Child(at)), numberText(x.Add(at, providerOf("new = q"))), listText(x.Close(at)))
	}
	for at := range last {
		for _, p := range wrongs() {
			told = append(told, numberText(x.Add(at, p)))
		}
		for _, cell := range must(x.Cells(at)) {
			told = append(told, numberText(x.Add(at, providerOf(nameOf(x, cell)+" = q + a"))))
		}
		if must(x.Closed(at)) || cellsOf(x) == api.MaxCells {
			told = append(told, numberText(x.Add(at, providerOf("new = q"))))
		}
		if must(x.Closed(at)) || last == api.MaxScopes {
			told = append(told, numberText(x.Child(at)))
		}
	}
	return told
}

// What is refused changes nothing, nor does what is only asked, and what comes behind it is as it would have been.
func TestRefusedChangesNothing(t *testing.T) {
	trees := crowded(t)
	trees["scopes"] = starOf(t, api.MaxScopes)
	for word, x := range trees {
		plain, was := x.Clone(), stateOf(x)
		for _, told := range refused(x) {
			if len(told) < 6 || told[:6] != "error " {
				t.Errorf("%s: not refused: %s", word, told)
			}
		}
		want(t, stateOf(x), was, word, "behind what was refused")
		want(t, stateOf(x), was, word, "asked again")
		for _, s := range []string{"add 0 new = q", "child 0", "child 1", "add 1 a = q", "add 1 new = 1", "close 1", "add 0 last = new", "close 0"} {
			want(t, step(x, s), step(plain, s), word, s)
		}
		want(t, stateOf(x), stateOf(plain), word, "behind more steps")
	}
}
