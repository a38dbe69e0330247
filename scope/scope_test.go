package scope_test

import (
	"fmt"
	"math"
	"slices"
	"strconv"
	"strings"
	"testing"

	"onceweb/api"
	"onceweb/grammar"
	"onceweb/scope"
)

// providerOf reads a provider as these tests write it: a = b + 1.
func providerOf(s string) api.Provider {
	p, f := grammar.ReadOne("cell " + s + ";")
	if f.Code != api.OK {
		panic(fmt.Sprint("no provider: ", s, f))
	}
	return p
}

// treeOf is a tree in which these steps were done, none of them refused.
func treeOf(t *testing.T, steps string) *scope.Tree {
	t.Helper()
	x := scope.New()
	did(t, x, steps)
	return x
}

// did does steps, none of which may be refused.
func did(t *testing.T, x *scope.Tree, steps string) {
	t.Helper()
	for _, s := range strings.Split(steps, ";") {
		if told := step(x, s); strings.Contains(told, "error") || strings.Contains(told, "odd") {
			t.Fatalf("%s: %s", s, told)
		}
	}
}

// step does what a step says (child 0, add 0 a = b, close 0; no word: nothing), and tells what was answered.
func step(x laying, s string) string {
	word, rest, _ := strings.Cut(strings.TrimSpace(s), " ")
	number, line, _ := strings.Cut(rest, " ")
	at, _ := strconv.Atoi(number)
	switch word {
	case "child":
		return numberText(x.Child(at))
	case "add":
		return numberText(x.Add(at, providerOf(line)))
	case "close":
		return listText(x.Close(at))
	case "":
		return ""
	}
	panic("no step: " + s)
}

// nth is the name of the cell of that number in a tree of many.
func nth(number int) string { return "c" + strconv.Itoa(number) }

func want(t *testing.T, got, wanted string, what ...any) {
	t.Helper()
	if got != wanted {
		t.Errorf("%s: %s, want %s", strings.TrimSpace(fmt.Sprintln(what...)), got, wanted)
	}
}

// numberText is a number that was answered, or the error; anything beside one is odd.
func numberText(number int, e api.Errno) string {
	switch {
	case e == api.OK:
		return strconv.Itoa(number)
	case number == 0:
		return e.Error()
	}
	return fmt.Sprint("odd: ", number, e)
}

func boolText(is bool, e api.Errno) string {
	switch {
	case e == api.OK:
		return strconv.FormatBool(is)
	case !is:
		return e.Error()
	}
	return fmt.Sprint("odd: ", is, e)
}

func listText[T any](l []T, e api.Errno) string {
	switch {
	case e == api.OK:
		return strings.Trim(fmt.Sprint(l), "[]")
	case len(l) == 0:
		return e.Error()
	}
	return fmt.Sprint("odd: ", l, e)
}

func arrowsText(l []api.Arrow) string { return strings.Trim(fmt.Sprint(l), "[]") }

func providerText(p api.Provider) string {
	var words []string
	for _, op := range p.Expr {
		words = append(words, fmt.Sprintf("%d/%d/%d/%.50q", op.Kind, op.N, op.Int, op.Text))
	}
	return fmt.Sprintf("%.50q %v %v %v %d/%.50q", p.Name, words, p.Again, p.Policy, p.Closer.Kind, p.Closer.Text)
}

func cellText(at int, p api.Provider, e api.Errno) string {
	switch {
	case e == api.OK:
		return fmt.Sprint(at, " ", providerText(p))
	case at == 0 && providerText(p) == providerText(api.Provider{}):
		return e.Error()
	}
	return fmt.Sprint("odd: ", at, providerText(p), e)
}

// asked are the calls that are given a scope alone and change nothing.
var asked = map[string]func(x laying, at int) string{
	"Cells":   func(x laying, at int) string { return listText(x.Cells(at)) },
	"Visible": func(x laying, at int) string { return listText(x.Visible(at)) },
	"Hidden":  func(x laying, at int) string { return listText(x.Hidden(at)) },
	"Up":      func(x laying, at int) string { return listText(x.Up(at)) },
	"Beneath": func(x laying, at int) string { return listText(x.Beneath(at)) },
	"Closed":  func(x laying, at int) string { return boolText(x.Closed(at)) },
	"Missing": func(x laying, at int) string { return listText(x.Missing(at)) },
}

// wantEach holds what a call answers of the scopes from 0 on against texts.
func wantEach(t *testing.T, x laying, call string, wanted ...string) {
	t.Helper()
	for at, text := range wanted {
		want(t, asked[call](x, at), text, call, at)
	}
}

func TestExamples(t *testing.T) {
	x := scope.New()
	for _, s := range [][2]string{{"add 0 a = b", "0"}, {"add 0 b = 1", "1"}, {"child 0", "1"}, {"add 1 b = 2", "2"}} {
		want(t, step(x, s[0]), s[1], s[0])
	}
	want(t, numberText(x.Resolve(1, "b")), "2", "Resolve in the child")
	want(t, numberText(x.Resolve(0, "b")), "1", "Resolve in the root")
	want(t, arrowsText(x.Arrows()), "{0 1}", "Arrows")
	wantEach(t, x, "Visible", "0 1", "0 2")
	wantEach(t, x, "Hidden", "", "1")
	for _, s := range [][2]string{{"child 1", "2"}, {"child 0", "3"}, {"child 1", "4"}} {
		want(t, step(x, s[0]), s[1], s[0])
	}
	wantEach(t, x, "Beneath", "3 4 2 1 0")
	y := x.Clone()
	want(t, step(x, "close 1"), "4 2 1", "Close(1)")
	want(t, step(x, "close 0"), "3 0", "Close(0)")
	want(t, step(x, "add 2 c = 1"), "error 8", "Add to a closed one")
	want(t, step(y, "add 0 c = d"), "3", "Add(0, c = d)")
	wantEach(t, y, "Missing", "d")
	want(t, step(y, "add 0 d = 1"), "4", "Add(0, d = 1)")
	wantEach(t, y, "Missing", "")
	want(t, arrowsText(y.Arrows()), "{0 1} {3 4}", "Arrows")
}

// 18.1

func TestRootAlone(t *testing.T) {
	x := scope.New()
	want(t, strconv.Itoa(x.Scopes()), "1", "Scopes")
	for call, wanted := range map[string]string{"Cells": "", "Visible": "", "Hidden": "", "Up": "0", "Beneath": "0", "Closed": "false", "Missing": ""} {
		wantEach(t, x, call, wanted, "error 4")
	}
	want(t, arrowsText(x.Arrows()), "", "Arrows")
	want(t, numberText(x.Resolve(0, "a")), "error 4", "Resolve")
	want(t, cellText(x.Cell(0)), "error 4", "Cell")
	want(t, stateOf(x), stateOf(newNotes()), "a new tree")
	want(t, step(x, "close 0"), "0", "Close")
	wantEach(t, x, "Closed", "true")
}

// chainOf is a tree of so many scopes, each beneath the one made ahead of it.
func chainOf(t *testing.T, n int) *scope.Tree {
	t.Helper()
	x := scope.New()
	for parent := range n - 1 {
		did(t, x, fmt.Sprint("child ", parent))
	}
	return x
}

// starOf is a tree of so many scopes, all beneath the root.
func starOf(t *testing.T, n int) *scope.Tree {
	t.Helper()
	x := scope.New()
	for range n - 1 {
		did(t, x, "child 0")
	}
	return x
}

// numbersText is the numbers from one to another, which may be the lesser one.
func numbersText(from, to int) string {
	by := 1
	if to < from {
		by = -1
	}
	s := strconv.Itoa(from)
	for from != to {
		from += by
		s += " " + strconv.Itoa(from)
	}
	return s
}

func TestMaxScopes(t *testing.T) {
	last := api.MaxScopes - 1
	chain, star := chainOf(t, api.MaxScopes), starOf(t, api.MaxScopes)
	want(t, asked["Up"](chain, last), numbersText(last, 0), "Up of a chain")
	want(t, asked["Beneath"](chain, 0), numbersText(last, 0), "Beneath of a chain")
	want(t, asked["Up"](star, last), fmt.Sprint(last, " 0"), "Up of a star")
	want(t, asked["Beneath"](star, 0), numbersText(last, 0), "Beneath of a star")
	for word, x := range map[string]*scope.Tree{"chain": chain, "star": star} {
		for _, parent := range []int{0, 1, last - 1, last} {
			want(t, numberText(x.Child(parent)), "error 3", word, "Child", parent)
			want(t, strconv.Itoa(x.Scopes()), strconv.Itoa(api.MaxScopes), word, "Scopes")
		}
		want(t, asked["Up"](x, api.MaxScopes), "error 4", word, "Up of one more")
	}
	did(t, chain, "add 0 b = 1; add 31 a = b")
	want(t, numberText(chain.Resolve(last, "b")), "0", "Resolve along a chain")
	want(t, arrowsText(chain.Arrows()), "{1 0}", "Arrows along a chain")
	want(t, step(chain, "close 1"), numbersText(last, 1), "Close of a chain")
	want(t, step(star, "close 0"), numbersText(last, 0), "Close of a star")
	want(t, asked["Closed"](chain, 0), "false", "Closed of the chain's root")
}

func TestScopesCounts(t *testing.T) {
	x := scope.New()
	for number := 1; number < api.MaxScopes; number++ {
		want(t, numberText(x.Child(number/2)), strconv.Itoa(number), "Child")
		want(t, strconv.Itoa(x.Scopes()), strconv.Itoa(number+1), "Scopes")
		x.Child(-1)
		x.Child(number + 1)
		want(t, strconv.Itoa(x.Scopes()), strconv.Itoa(number+1), "Scopes behind a refused Child")
	}
	did(t, x, "close 0")
	want(t, strconv.Itoa(x.Scopes()), strconv.Itoa(api.MaxScopes), "Scopes of a closed tree")
}

// oddNumbers are numbers of which there is none, where there are n.
func oddNumbers(n int) []int {
	return []int{-1, -2, -n, n, n + 1, api.MaxScopes, api.MaxCells, math.MinInt, math.MaxInt, 1 << 32, -1 << 32}
}

// crowded are trees of several kinds.
func crowded(t *testing.T) map[string]*scope.Tree {
	t.Helper()
	return map[string]*scope.Tree{
		"root":   scope.New(),
		"few":    treeOf(t, fewSteps),
		"closed": treeOf(t, fewSteps+"; close 1"),
		"all":    treeOf(t, fewSteps+"; close 0"),
		"cells":  fullOf(t, 5),
	}
}

// fewSteps lay five scopes and nine cells.
const fewSteps = "add 0 b = x; child 0; add 0 a = b + c; add 1 b = a + y; child 1; child 0; child 1; add 2 b = b + c; add 4 c = b; add 3 d = z + b + a; add 1 d = 1; add 0 d = e; add 2 a = a + d"

func TestNoSuchScope(t *testing.T) {
	for word, x := range crowded(t) {
		was := stateOf(x)
		for _, at := range oddNumbers(x.Scopes()) {
			if at >= 0 && at < x.Scopes() {
				continue
			}
			for call, ask := range asked {
				want(t, ask(x, at), "error 4", word, call, at)
			}
			want(t, numberText(x.Child(at)), "error 4", word, "Child", at)
			want(t, numberText(x.Add(at, providerOf("new = 1"))), "error 4", word, "Add", at)
			want(t, numberText(x.Resolve(at, "a")), "error 4", word, "Resolve", at)
			want(t, numberText(x.Resolve(at, "")), "error 4", word, "Resolve of no name", at)
			want(t, listText(x.Close(at)), "error 4", word, "Close", at)
		}
		want(t, stateOf(x), was, word, "behind what was refused")
	}
}

func TestNoSuchCell(t *testing.T) {
	for word, n := range map[string]int{"root": 0, "few": 9, "closed": 9, "all": 9, "cells": api.MaxCells} {
		x := crowded(t)[word]
		for _, cell := range oddNumbers(n) {
			if cell < 0 || cell >= n {
				want(t, cellText(x.Cell(cell)), "error 4", word, "Cell", cell)
			}
		}
		if n > 0 {
			_, p, e := x.Cell(n - 1)
			want(t, fmt.Sprint(e, p.Name != ""), "error 0 true", word, "the last cell")
		}
	}
}

// 18.2

// fullOf is a tree of so many scopes in a chain with MaxCells cells, added to the scopes in turns; each asks for the one behind it.
func fullOf(t *testing.T, scopes int) *scope.Tree {
	t.Helper()
	x := chainOf(t, scopes)
	for number := range api.MaxCells {
		want(t, step(x, fmt.Sprintf("add %d %s = %s", number%scopes, nth(number), nth(number+1))), strconv.Itoa(number), "Add")
	}
	return x
}

func TestMaxCells(t *testing.T) {
	for _, scopes := range []int{1, 2, 3, api.MaxScopes} {
		x := fullOf(t, scopes)
		was := stateOf(x)
		for at := range scopes {
			want(t, step(x, fmt.Sprint("add ", at, " more = 1")), "error 3", "Add of one more to", at)
		}
		want(t, stateOf(x), was, "behind one more")
		for number := range api.MaxCells {
			at := number % scopes
			line := fmt.Sprintf("%s = %s", nth(number), nth(number+1))
			want(t, cellText(x.Cell(number)), fmt.Sprint(at, " ", providerText(providerOf(line))), "Cell", number)
			want(t, numberText(x.Resolve(scopes-1, nth(number))), strconv.Itoa(number), "Resolve", number)
		}
		want(t, cellText(x.Cell(api.MaxCells)), "error 4", "Cell of one more")
		all, _ := x.Visible(scopes - 1)
		want(t, strconv.Itoa(len(all)), strconv.Itoa(api.MaxCells), "Visible from the last scope")
		if scopes < api.MaxScopes {
			want(t, numberText(x.Child(0)), strconv.Itoa(scopes), "Child of a tree that is full of cells")
			want(t, step(x, fmt.Sprint("add ", scopes, " more = 1")), "error 3", "Add to a scope without cells")
		}
	}
}

// Cells of closed scopes, and those that others override, count too.
func TestMaxCellsOfAllKinds(t *testing.T) {
	x := treeOf(t, "child 0; child 0; child 1")
	for number := range api.MaxCells / 4 {
		for at := range 4 {
			want(t, step(x, fmt.Sprintf("add %d %s = 1", at, nth(number))), strconv.Itoa(4*number+at), "Add")
		}
	}
	want(t, step(x, "add 2 more = 1"), "error 3", "Add of one more")
	did(t, x, "close 1")
	want(t, step(x, "add 2 more = 1"), "error 3", "Add of one more, behind a closing")
	want(t, step(x, "add 1 more = 1"), "error 8", "Add of one more to a closed one")
}

func TestChildErrors(t *testing.T) {
	full := chainOf(t, api.MaxScopes)
	want(t, numberText(full.Child(api.MaxScopes)), "error 4", "none of that number, and too many")
	want(t, numberText(full.Child(-1)), "error 4", "none of that number, and too many")
	did(t, full, "close 20")
	for _, at := range []int{20, 21, api.MaxScopes - 1} {
		want(t, numberText(full.Child(at)), "error 8", "closed, and too many", at)
	}
	want(t, numberText(full.Child(19)), "error 3", "too many")
	did(t, full, "close 0")
	want(t, numberText(full.Child(api.MaxScopes)), "error 4", "none, all closed, too many")
	want(t, numberText(full.Child(0)), "error 8", "closed, and too many")
	few := treeOf(t, "child 0; child 1; child 0; close 1")
	for _, c := range []struct {
		parent int
		wanted string
	}{
		{0, "4"}, {1, "error 8"}, {2, "error 8"}, {3, "5"}, {4, "6"}, {6, "7"}, {8, "error 4"}, {-1, "error 4"}, {7, "8"},
	} {
		want(t, numberText(few.Child(c.parent)), c.wanted, "Child", c.parent)
	}
	did(t, few, "close 0")
	want(t, numberText(few.Child(9)), "error 4", "none of that number, all closed")
	for at := range 9 {
		want(t, numberText(few.Child(at)), "error 8", "Child, all closed", at)
	}
}

// wrongs are providers that are not right, of the name a where the name is; by what is wrong.
func wrongs() map[string]api.Provider {
	one, long := api.Expr{{Kind: api.XInt, Int: 1}}, strings.Repeat("x", api.MaxWord+1)
	deep := slices.Clone(one)
	for range api.MaxNest {
		deep = append(deep, api.Op{Kind: api.XSize, N: 1})
	}
	return map[string]api.Provider{
		"2 no name":     {Expr: one},
		"2 a keyword":   {Name: "cell", Expr: one},
		"2 a long name": {Name: strings.Repeat("a", api.MaxName+1), Expr: one},
		"2 name, expr":  {Name: "A", Policy: api.Policy{Tries: -1}, Closer: api.Closer{Kind: 9}},
		"5 no expr":     {Name: "a"},
		"5 two wholes":  {Name: "a", Expr: api.Expr{one[0], one[0]}, Policy: api.Policy{Tries: -1}},
		"5 unbound":     {Name: "a", Expr: api.Expr{{Kind: api.XLocal, Text: "x"}}},
		"3 operations":  {Name: "a", Expr: slices.Repeat(one, api.MaxOps+1), Closer: api.Closer{Kind: 9}},
		"3 a long text": {Name: "a", Expr: api.Expr{{Kind: api.XText, Text: long}}},
		"3 too deep":    {Name: "a", Expr: deep},
		"50 policy":     {Name: "a", Expr: one, Policy: api.Policy{Tries: 65, Factor: 1}, Closer: api.Closer{Kind: 9}},
		"51 closer":     {Name: "a", Expr: one, Closer: api.Closer{Kind: api.ClosePanic + 1}},
		"51 its text":   {Name: "a", Expr: one, Closer: api.Closer{Kind: api.CloseFine, Text: "x"}},
		"3 its text":    {Name: "a", Expr: one, Closer: api.Closer{Kind: api.CloseFail, Text: long}},
	}
}

// TestWrongProviders: what is wrong with a provider is told ahead of what is wrong with the scope, but that there is none.
func TestWrongProviders(t *testing.T) {
	full := fullOf(t, 3)
	for what, p := range wrongs() {
		number, _, _ := strings.Cut(what, " ")
		want(t, numberText(scope.New().Add(0, p)), "error "+number, what)
		want(t, numberText(treeOf(t, "add 0 a = 1").Add(0, p)), "error "+number, what, "of a name that is there")
		closed := treeOf(t, "add 0 a = 1; child 0; close 1; child 0; close 0")
		for at := range 3 {
			want(t, numberText(closed.Add(at, p)), "error "+number, what, "to a closed one")
		}
		want(t, numberText(closed.Add(3, p)), "error 4", what, "to none")
		want(t, numberText(full.Add(2, p)), "error "+number, what, "to a full one")
		want(t, numberText(full.Add(-1, p)), "error 4", what, "to none of a full one")
		shut := full.Clone()
		did(t, shut, "close 0")
		want(t, numberText(shut.Add(1, p)), "error "+number, what, "to a full one that is closed")
		want(t, numberText(shut.Add(5, p)), "error 4", what, "to none of a full one that is closed")
	}
}

func TestAddErrors(t *testing.T) {
	full := fullOf(t, 3)
	for _, c := range []struct{ steps, wanted, what string }{
		{"add 0 c0 = 1", "error 6", "there, and too many"},
		{"add 1 c1 = 1", "error 6", "there, and too many"},
		{"add 1 c0 = 1", "error 3", "there in the parent alone, and too many"},
		{"add 0 c1 = 1", "error 3", "there in the child alone, and too many"},
		{"add 3 c0 = 1", "error 4", "none, and too many"},
		{"close 1; add 1 c1 = 1", "error 8", "closed, there and too many"},
		{"close 1; add 2 c1 = 1", "error 8", "beneath a closed one, and too many"},
		{"close 1; add 2 c2 = 1", "error 8", "beneath a closed one, there, and too many"},
		{"close 1; add 0 c0 = 1", "error 6", "there, and too many, above a closed one"},
		{"close 1; add 0 more = 1", "error 3", "too many, above a closed one"},
		{"close 0; add 0 c0 = 1", "error 8", "all closed, there and too many"},
		{"close 0; add 3 c0 = 1", "error 4", "none, all closed and too many"},
	} {
		x, told := full.Clone(), ""
		for _, s := range strings.Split(c.steps, ";") {
			told = step(x, s)
		}
		want(t, told, c.wanted, c.what)
	}
	few := treeOf(t, fewSteps+"; close 1")
	want(t, step(few, "add 1 b = 1"), "error 8", "closed, and there")
	want(t, step(few, "add 2 b = 1"), "error 8", "beneath a closed one, and there")
	want(t, step(few, "add 4 new = 1"), "error 8", "beneath a closed one")
	want(t, step(few, "add 5 b = 1"), "error 4", "none")
	want(t, step(few, "add 0 b = 1"), "error 6", "there")
	want(t, step(few, "add 3 b = 1"), "9", "there in the parent alone")
}

// TestOverriding: a name that is there in another scope alone is no hindrance.
func TestOverriding(t *testing.T) {
	x := treeOf(t, "child 0; child 1; child 0")
	for number, s := range []string{"add 1 a = 1", "add 0 a = 2", "add 2 a = 3", "add 3 a = 4"} {
		want(t, step(x, s), strconv.Itoa(number), s)
		want(t, step(x, s), "error 6", s, "again")
	}
	for at, cell := range []string{"1", "0", "2", "3"} {
		want(t, numberText(x.Resolve(at, "a")), cell, "Resolve in", at)
		want(t, step(x, fmt.Sprint("add ", at, " a = a")), "error 6", "Add to", at)
		want(t, listText(x.Cells(at)), cell, "Cells of", at)
	}
}
