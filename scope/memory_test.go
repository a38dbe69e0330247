package scope_test

import (
	"fmt"
	"math/rand/v2"
	"slices"
	"strconv"
	"strings"
	"testing"

	"onceweb/api"
	"onceweb/scope"
)

// R3: what is handed in is not changed and not kept, spare room too; what is answered is new memory, spare room too; a clone shares nothing.

// scribble writes over all of l, its spare room too.
func scribble[T any](l []T, by T) {
	l = l[:cap(l)]
	for i := range l {
		l[i] = by
	}
}

var oddOp = api.Op{Kind: 99, N: 99, Int: 99, Text: "odd"}

// roomy is p with an expression of its own that has spare room with something in it.
func roomy(p api.Provider) api.Provider {
	e := append(slices.Clone(p.Expr), oddOp, api.Op{Kind: api.XName, Text: "spare"}, oddOp)
	p.Expr = e[:len(p.Expr)]
	return p
}

// roomyText is all that a provider's memory has, spare room too.
func roomyText(p api.Provider) string {
	return providerText(p) + fmt.Sprint(p.Expr[:cap(p.Expr)])
}

// TestGivenIsLeft: what was handed to Add is as it was, and may be written over then.
func TestGivenIsLeft(t *testing.T) {
	r := rand.New(rand.NewPCG(18, 20))
	for range 100 {
		x, y := shaped(t, "0 1 0"), shaped(t, "0 1 0")
		var given []api.Provider
		for range 15 {
			at, p := r.IntN(4), providerOf(fmt.Sprintf("%s = [%s, %s]", someName(r, 4), someName(r, 4), someName(r, 4)))
			if r.IntN(4) == 0 {
				p.Expr[2].N++
			}
			big := roomy(p)
			was := roomyText(big)
			want(t, numberText(x.Add(at, big)), numberText(y.Add(at, p)), "Add of one with spare room")
			want(t, roomyText(big), was, "what was given")
			given = append(given, big)
		}
		texts := stateOf(y)
		want(t, stateOf(x), texts, "the tree")
		for _, p := range given {
			scribble(p.Expr, oddOp)
		}
		want(t, stateOf(x), texts, "the tree, what it was given scribbled over")
		x.Clone()
		did(t, x, "close 1; close 0")
		for _, p := range given {
			if slices.ContainsFunc(p.Expr[:cap(p.Expr)], func(op api.Op) bool { return op != oddOp }) {
				t.Fatal("what was given was written to later")
			}
		}
	}
}

// told are the calls that answer lists of numbers.
var told = map[string]func(x *scope.Tree, at int) []int{
	"Cells":   func(x *scope.Tree, at int) []int { return must(x.Cells(at)) },
	"Visible": func(x *scope.Tree, at int) []int { return must(x.Visible(at)) },
	"Hidden":  func(x *scope.Tree, at int) []int { return must(x.Hidden(at)) },
	"Up":      func(x *scope.Tree, at int) []int { return must(x.Up(at)) },
	"Beneath": func(x *scope.Tree, at int) []int { return must(x.Beneath(at)) },
}

func TestNumbersAreNew(t *testing.T) {
	for word, of := range told {
		for next, other := range told {
			x := treeOf(t, fewSteps)
			was := stateOf(x)
			for at := range x.Scopes() {
				first, second := of(x, at), other(x, at)
				text := fmt.Sprint(second)
				scribble(first, 77)
				want(t, fmt.Sprint(second), text, "two answers:", word, next)
				want(t, stateOf(x), was, "the tree, scribbled over what was answered by", word)
			}
		}
	}
}

// TestAnswersStay: an answer is as it was, whatever comes later.
func TestAnswersStay(t *testing.T) {
	for word, of := range told {
		for at := range 5 {
			x := treeOf(t, fewSteps)
			kept, arrows, missing := of(x, at), x.Arrows(), must(x.Missing(at))
			text, arrowText, missingText := fmt.Sprint(kept), fmt.Sprint(arrows), fmt.Sprint(missing)
			for number := range 30 {
				step(x, fmt.Sprint("child ", number%5))
				step(x, fmt.Sprintf("add %d %s = a + b + c", number%5, nth(number)))
				step(x, fmt.Sprintf("add %d e%d = z%d", at, number, number))
			}
			did(t, x, "add 0 c = 1; add 3 a = c; close 2; close 0")
			want(t, fmt.Sprint(kept), text, word, at, "behind what came later")
			want(t, fmt.Sprint(arrows), arrowText, "Arrows, behind what came later")
			want(t, fmt.Sprint(missing), missingText, "Missing, behind what came later")
		}
	}
}

func TestCloseIsNew(t *testing.T) {
	for _, steps := range []string{"close 1; close 0", "close 2; close 0", "close 0; close 0", "close 1; close 1", "close 4; close 1"} {
		x, y := treeOf(t, fewSteps), treeOf(t, fewSteps)
		var kept [][]int
		for _, s := range strings.Split(steps, ";") {
			at, _ := strconv.Atoi(s[len(s)-1:])
			l := must(x.Close(at))
			want(t, listText(l, api.OK), step(y, s), s)
			kept = append(kept, l)
		}
		text := fmt.Sprint(kept[1])
		scribble(kept[0], 77)
		want(t, fmt.Sprint(kept[1]), text, "two answers of Close:", steps)
		scribble(kept[1], 77)
		want(t, stateOf(x), stateOf(y), "the tree, scribbled over what was closed by", steps)
	}
}

func TestArrowsAndMissingAreNew(t *testing.T) {
	x := treeOf(t, fewSteps)
	was := stateOf(x)
	first, second := x.Arrows(), x.Arrows()
	text := arrowsText(second)
	scribble(first, api.Arrow{From: 77, To: 77})
	want(t, arrowsText(second), text, "Arrows a second time")
	want(t, stateOf(x), was, "the tree, scribbled over Arrows")
	for at := range x.Scopes() {
		first, second := must(x.Missing(at)), must(x.Missing(at))
		text := fmt.Sprint(second)
		scribble(first, "odd")
		want(t, fmt.Sprint(second), text, "Missing a second time")
		want(t, stateOf(x), was, "the tree, scribbled over Missing of", at)
	}
}

func TestProvidersAreNew(t *testing.T) {
	x := treeOf(t, fewSteps)
	was := stateOf(x)
	for cell := range cellsOf(x) {
		at, first, _ := x.Cell(cell)
		_, second, _ := x.Cell(cell)
		text := cellText(at, second, api.OK)
		scribble(first.Expr, oddOp)
		want(t, cellText(at, second, api.OK), text, "Cell a second time")
		want(t, stateOf(x), was, "the tree, scribbled over Cell", cell)
	}
}

func TestClonesShareNothing(t *testing.T) {
	changes := map[string]string{
		"Child":      "child 0; child 1; child 3",
		"Add":        "add 0 x = w; add 1 c = a; add 3 y = z",
		"others":     "add 0 x = a; add 1 y = 1; add 3 e = y",
		"turned":     "add 3 y = z; add 1 c = a; add 0 x = w",
		"Close":      "close 1",
		"Close all":  "close 0",
		"Close more": "close 4; close 3",
		"both":       "child 1; add 5 a = b; close 5; add 1 z = a",
		"nothing":    "",
	}
	bases := []string{"child 0; child 1; child 0; child 1", fewSteps, fewSteps + "; close 2"}
	for word, change := range changes {
		for second, next := range changes {
			for _, base := range bases {
				x, plain := treeOf(t, base), treeOf(t, base)
				was, y := stateOf(x), x.Clone()
				want(t, stateOf(y), was, "a clone")
				did(t, x, change)
				want(t, stateOf(y), was, "a clone, behind a change of its tree:", word)
				behind := stateOf(x)
				did(t, y, next)
				want(t, stateOf(x), behind, "a tree, behind a change of its clone:", word, second)
				did(t, plain, next)
				want(t, stateOf(y), stateOf(plain), "a clone goes on as its tree would:", second)
			}
		}
	}
}

// TestClonesGrow: all grow by as much, but each in another order, so that one's spare room would be seen in another.
func TestClonesGrow(t *testing.T) {
	x := treeOf(t, "child 0; add 0 a = 1; add 1 b = 2; add 1 c = 3")
	y := x.Clone()
	trees := map[string]*scope.Tree{"x": x, "y": y, "z": y.Clone()}
	parents := map[string]int{"x": 0, "y": 1, "z": 0}
	scopes := map[string]func(number int) int{
		"x": func(number int) int { return number / 3 % 2 },
		"y": func(number int) int { return (number/3 + 1) % 2 },
		"z": func(number int) int { return number % 2 },
	}
	for number := 3; number < api.MaxCells; number++ {
		for word, tree := range trees {
			at, line := scopes[word](number), word+strconv.Itoa(number)+" = "+word
			want(t, numberText(tree.Add(at, providerOf(line))), strconv.Itoa(number), "Add to", word)
			if number%9 == 0 && number/9 < api.MaxScopes-2 {
				tree.Child(parents[word])
			}
		}
	}
	for word, tree := range trees {
		cells := [][]int{{0}, {1, 2}}
		for number := 3; number < api.MaxCells; number++ {
			at, name := scopes[word](number), word+strconv.Itoa(number)
			cells[at] = append(cells[at], number)
			want(t, cellText(tree.Cell(number)), fmt.Sprint(at, " ", providerText(providerOf(name+" = "+word))), "Cell of", word)
			want(t, numberText(tree.Resolve(1, name)), strconv.Itoa(number), "Resolve in", word)
		}
		for at, own := range cells {
			want(t, asked["Cells"](tree, at), listText(own, api.OK), "Cells of", at, "in", word)
			want(t, asked["Missing"](tree, at), word, "Missing of", at, "in", word)
		}
		for at := 2; at < tree.Scopes(); at++ {
			want(t, strconv.Itoa(must(tree.Up(at))[1]), strconv.Itoa(parents[word]), "the parent of", at, "in", word)
		}
		want(t, step(tree, "add 0 more = 1"), "error 3", "Add to a full one")
	}
}

func TestClonesOfAllKinds(t *testing.T) {
	trees := crowded(t)
	trees["scopes"] = chainOf(t, api.MaxScopes)
	for word, x := range trees {
		was := stateOf(x)
		y := x.Clone()
		z := y.Clone()
		want(t, stateOf(y), was, word, "a clone")
		step(z, "close 0")
		want(t, stateOf(x)+stateOf(y), was+was, word, "behind Close of a clone's clone")
		for _, s := range []string{"child 0", "child 1", "add 0 a = 1", "add 0 new = a", "add 1 new = q", "add 4 b = new", "close 1", "child 4", "close 0", "add 0 more = 1"} {
			want(t, step(y, s), step(x, s), word, s)
			want(t, stateOf(y), stateOf(x), word, "behind", s)
		}
	}
}

// TestNewOnes: trees know nothing of each other.
func TestNewOnes(t *testing.T) {
	x, y := scope.New(), scope.New()
	did(t, x, "add 0 a = b; child 0; add 1 b = c; close 1; close 0")
	want(t, stateOf(y), stateOf(scope.New()), "another tree")
	want(t, step(y, "add 0 a = c"), "0", "Add to another tree")
	want(t, asked["Missing"](x, 0)+asked["Missing"](y, 0), "bc", "Missing of both")
}
