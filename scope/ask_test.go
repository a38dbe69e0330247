package scope_test

import (
	"fmt"
	"strconv"
	"strings"
	"testing"

	"onceweb/api"
	"onceweb/scope"
)

// 18.3

func TestResolve(t *testing.T) {
	x := treeOf(t, fewSteps)
	cells := map[string][]string{
		"a":  {"1", "1", "8", "1", "1"},
		"b":  {"0", "2", "3", "0", "2"},
		"c":  {"error 4", "error 4", "error 4", "error 4", "4"},
		"d":  {"7", "6", "6", "5", "6"},
		"":   {"error 4", "error 4", "error 4", "error 4", "error 4"},
		"x":  {"error 4", "error 4", "error 4", "error 4", "error 4"},
		"a ": {"error 4", "error 4", "error 4", "error 4", "error 4"},
		"aa": {"error 4", "error 4", "error 4", "error 4", "error 4"},
	}
	for _, shut := range []string{"", "close 2", "close 1", "close 4", "close 0"} {
		step(x, shut)
		for name, wanted := range cells {
			for at, cell := range wanted {
				want(t, numberText(x.Resolve(at, name)), cell, shut, "Resolve", at, name)
			}
		}
	}
	for _, name := range []string{"A", "cell", "a\x00", "\xff", "é", strings.Repeat("a", api.MaxName+1), strings.Repeat("a", 1<<17)} {
		want(t, numberText(x.Resolve(2, name)), "error 4", fmt.Sprintf("Resolve %.50q", name))
	}
}

// Only what lies on the way up is seen: neither a scope beside, nor one beneath.
func TestResolveAlongTheWay(t *testing.T) {
	x := treeOf(t, "child 0; child 1; child 2; child 1; child 0")
	for _, c := range []struct {
		step   string
		wanted [6]int
	}{
		{"add 4 a = 1", [6]int{-1, -1, -1, -1, 0, -1}},
		{"add 0 a = 1", [6]int{1, 1, 1, 1, 0, 1}},
		{"add 2 a = 1", [6]int{1, 1, 2, 2, 0, 1}},
		{"add 1 a = 1", [6]int{1, 3, 2, 2, 0, 1}},
		{"add 5 a = 1", [6]int{1, 3, 2, 2, 0, 4}},
		{"add 3 a = 1", [6]int{1, 3, 2, 5, 0, 4}},
	} {
		did(t, x, c.step)
		for at, cell := range c.wanted {
			wanted := strconv.Itoa(cell)
			if cell < 0 {
				wanted = "error 4"
			}
			want(t, numberText(x.Resolve(at, "a")), wanted, c.step, "Resolve", at)
		}
	}
}

func TestCell(t *testing.T) {
	whole := `a = if b < 3 then [b, "x"] else -1 again tries 3 base 1 factor 2 cap 10 close fail "no"`
	x := treeOf(t, "child 0; child 1; child 0; add 3 "+whole)
	lines := []string{"3 " + whole, "0 b = 1", "2 a = b", "1 a = a", "0 z = y", "3 b = 1 close fine", "2 c = [a, b, c]"}
	for _, s := range lines[1:] {
		did(t, x, "add "+s)
	}
	for _, shut := range []string{"", "close 3", "close 0"} {
		step(x, shut)
		for cell, s := range lines {
			at, line, _ := strings.Cut(s, " ")
			want(t, cellText(x.Cell(cell)), at+" "+providerText(providerOf(line)), shut, "Cell", cell)
		}
		for _, cell := range oddNumbers(len(lines)) {
			want(t, cellText(x.Cell(cell)), "error 4", shut, "Cell", cell)
		}
	}
}

func TestCellsVisibleHidden(t *testing.T) {
	x := treeOf(t, fewSteps)
	for _, shut := range []string{"", "close 2", "close 1", "close 0"} {
		step(x, shut)
		wantEach(t, x, "Cells", "0 1 7", "2 6", "3 8", "5", "4", "error 4")
		wantEach(t, x, "Visible", "1 0 7", "1 2 6", "8 3 6", "1 0 5", "1 2 4 6", "error 4")
		wantEach(t, x, "Hidden", "", "0 7", "0 1 2 7", "7", "0 7", "error 4")
	}
}

// Scopes without cells see their parents' alone.
func TestScopesWithoutCells(t *testing.T) {
	x := treeOf(t, "child 0; child 1; child 2; child 0")
	for range 2 {
		wantEach(t, x, "Cells", "", "", "", "", "")
		wantEach(t, x, "Visible", "", "", "", "", "")
		wantEach(t, x, "Hidden", "", "", "", "", "")
	}
	did(t, x, "add 2 b = 1")
	wantEach(t, x, "Cells", "", "", "0", "", "")
	wantEach(t, x, "Visible", "", "", "0", "0", "")
	wantEach(t, x, "Hidden", "", "", "", "", "")
	did(t, x, "add 0 b = 1; add 0 a = 1")
	wantEach(t, x, "Cells", "1 2", "", "0", "", "")
	wantEach(t, x, "Visible", "2 1", "2 1", "2 0", "2 0", "2 1")
	wantEach(t, x, "Hidden", "", "", "1", "1", "")
}

func TestOverriddenTwice(t *testing.T) {
	x := treeOf(t, "child 0; child 1; child 2; add 3 a = 1; add 1 a = 1; add 2 a = 1; add 0 a = 1; add 0 b = 1; add 2 b = 1")
	wantEach(t, x, "Visible", "3 4", "1 4", "2 5", "0 5")
	wantEach(t, x, "Hidden", "", "3", "1 3 4", "1 2 3 4")
	wantEach(t, x, "Cells", "3 4", "1", "2 5", "0")
}

// Names rise by their bytes, whatever their cells' numbers and scopes.
func TestVisibleByNames(t *testing.T) {
	x := treeOf(t, "child 0; add 1 z = 1; add 0 b = 1; add 1 a10 = 1; add 0 a2 = 1; add 1 a = 1; add 0 a_ = 1; add 1 ab = 1; add 0 aa = 1; add 1 b = 1; add 0 z0 = 1; add 0 a1 = 1")
	wantEach(t, x, "Visible", "10 3 5 7 1 9", "4 10 2 3 5 7 6 8 0 9")
	wantEach(t, x, "Hidden", "", "1")
	wantEach(t, x, "Cells", "1 3 5 7 9 10", "0 2 4 6 8")
}

// Hidden cells are told by their numbers, though those of the scopes near come first on the way up.
func TestHiddenByNumbers(t *testing.T) {
	x := treeOf(t, "child 0; child 1; add 1 c = 1; add 0 c = 1; add 1 b = 1; add 0 a = 1; add 1 a = 1; add 0 b = 1; add 2 a = 1; add 2 b = 1; add 2 c = 1")
	wantEach(t, x, "Visible", "3 5 1", "4 2 0", "6 7 8")
	wantEach(t, x, "Hidden", "", "1 3 5", "0 1 2 3 4 5")
}

// 18.4

// shapes are trees by their scopes' parents (from the scope 1 on), and what is beneath their scopes, in closing order.
var shapes = []struct {
	parents string
	beneath []string
	up      []string
}{
	{"0", []string{"1 0", "1"}, []string{"0", "1 0"}},
	{"0 1", []string{"2 1 0", "2 1", "2"}, []string{"0", "1 0", "2 1 0"}},
	{"0 0", []string{"2 1 0", "1", "2"}, []string{"0", "1 0", "2 0"}},
	{"0 1 0 1", []string{"3 4 2 1 0", "4 2 1", "2", "3", "4"}, []string{"0", "1 0", "2 1 0", "3 0", "4 1 0"}},
	{"0 0 1 2 1 2", []string{"6 4 2 5 3 1 0", "5 3 1", "6 4 2", "3", "4", "5", "6"}, []string{"0", "1 0", "2 0", "3 1 0", "4 2 0", "5 1 0", "6 2 0"}},
	{"0 0 2 1 3 4", []string{"5 3 2 6 4 1 0", "6 4 1", "5 3 2", "5 3", "6 4", "5", "6"}, []string{"0", "1 0", "2 0", "3 2 0", "4 1 0", "5 3 2 0", "6 4 1 0"}},
	{"0 1 2 0 2 1 4", []string{"7 4 6 5 3 2 1 0", "6 5 3 2 1", "5 3 2", "3", "7 4", "5", "6", "7"}, []string{"0", "1 0", "2 1 0", "3 2 1 0", "4 0", "5 2 1 0", "6 1 0", "7 4 0"}},
}

// shaped is a tree of scopes with these parents.
func shaped(t *testing.T, parents string) *scope.Tree {
	t.Helper()
	return treeOf(t, "child "+strings.ReplaceAll(parents, " ", ";child "))
}

func TestUpBeneath(t *testing.T) {
	for _, c := range shapes {
		x := shaped(t, c.parents)
		for at := range c.beneath {
			want(t, asked["Up"](x, at), c.up[at], c.parents, "Up", at)
			want(t, asked["Beneath"](x, at), c.beneath[at], c.parents, "Beneath", at)
		}
		did(t, x, "close 1")
		for at := range c.beneath {
			want(t, asked["Up"](x, at), c.up[at], c.parents, "Up behind a closing", at)
			want(t, asked["Beneath"](x, at), c.beneath[at], c.parents, "Beneath behind a closing", at)
		}
	}
}

func TestCloseFirst(t *testing.T) {
	for _, c := range shapes {
		for at, wanted := range c.beneath {
			x := shaped(t, c.parents)
			want(t, listText(x.Close(at)), wanted, c.parents, "Close", at)
			for beneath := range c.beneath {
				is := strings.Contains(" "+wanted+" ", fmt.Sprint(" ", beneath, " "))
				want(t, boolText(x.Closed(beneath)), strconv.FormatBool(is), c.parents, "Closed", beneath, "behind Close", at)
			}
			for range 2 {
				want(t, listText(x.Close(at)), "", c.parents, "Close again", at)
			}
		}
	}
}

// TestCloseInTurns: what was closed is not told again, but all else beneath.
func TestCloseInTurns(t *testing.T) {
	for _, c := range []struct{ parents, steps, told, closed string }{
		{"0 1 0 1", "close 1; close 0", "4 2 1; 3 0", "0 1 2 3 4"},
		{"0 1 0 1", "close 4; close 1", "4; 2 1", "1 2 4"},
		{"0 1 0 1", "close 2; close 1", "2; 4 1", "1 2 4"},
		{"0 1 0 1", "close 2; close 0", "2; 3 4 1 0", "0 1 2 3 4"},
		{"0 1 0 1", "close 1; close 2; close 4; close 1; close 3", "4 2 1; ; ; ; 3", "1 2 3 4"},
		{"0 1 0 1", "close 0; close 3; close 4; close 0", "3 4 2 1 0; ; ; ", "0 1 2 3 4"},
		{"0 1 0 1", "close 3; close 2; close 4; close 1; close 0", "3; 2; 4; 1; 0", "0 1 2 3 4"},
		{"0 1 2 3 4", "close 3; close 5; close 1", "5 4 3; ; 2 1", "1 2 3 4 5"},
		{"0 1 2 3 4", "close 5; close 3; close 4; close 2", "5; 4 3; ; 2", "2 3 4 5"},
		{"0 0 1 2 1 2", "close 2; close 5; close 0", "6 4 2; 5; 3 1 0", "0 1 2 3 4 5 6"},
		{"0 0 1 2 1 2", "close 6; close 3; close 2; close 1", "6; 3; 4 2; 5 1", "1 2 3 4 5 6"},
	} {
		x := shaped(t, c.parents)
		var told []string
		for _, s := range strings.Split(c.steps, ";") {
			told = append(told, step(x, s))
		}
		want(t, strings.Join(told, "; "), c.told, c.parents, c.steps)
		for at := range x.Scopes() {
			is := strings.Contains(" "+c.closed+" ", fmt.Sprint(" ", at, " "))
			want(t, boolText(x.Closed(at)), strconv.FormatBool(is), c.parents, c.steps, "Closed", at)
		}
	}
}

// TestClosedTakesNothing: neither a closed scope nor one beneath takes a child or a cell; one above, or beside, does.
func TestClosedTakesNothing(t *testing.T) {
	for at, wanted := range []string{"", "1 2 4", "2", "3", "4"} {
		x := shaped(t, "0 1 0 1")
		if at == 0 {
			wanted = "0 1 2 3 4"
		}
		did(t, x, fmt.Sprint("close ", at))
		for of := range 5 {
			child, cell := numberText(x.Clone().Child(of)), numberText(x.Clone().Add(of, providerOf("a = 1")))
			if strings.Contains(" "+wanted+" ", fmt.Sprint(" ", of, " ")) {
				want(t, child+", "+cell, "error 8, error 8", "Child, Add of", of, "behind Close", at)
			} else {
				want(t, child+", "+cell, "5, 0", "Child, Add of", of, "behind Close", at)
			}
		}
	}
}

// A child that is made behind a closing beneath its parent is open, and is closed with it.
func TestChildBehindClose(t *testing.T) {
	x := shaped(t, "0 1 1")
	for _, s := range [][2]string{
		{"close 2", "2"}, {"child 1", "4"}, {"add 4 a = 1", "0"}, {"child 4", "5"}, {"child 2", "error 8"}, {"close 3", "3"},
		{"child 0", "6"}, {"close 1", "5 4 1"}, {"child 4", "error 8"}, {"child 6", "7"}, {"close 0", "7 6 0"}, {"child 6", "error 8"},
	} {
		want(t, step(x, s[0]), s[1], s[0])
	}
	wantEach(t, x, "Beneath", "7 6 5 4 3 2 1 0", "5 4 3 2 1", "2", "3", "5 4", "5", "7 6", "7")
}

// 18.5

func TestArrows(t *testing.T) {
	for _, c := range []struct{ steps, arrows, missing string }{
		{"add 0 a = 1", "", ""},
		{"add 0 a = a", "{0 0}", ""},
		{"add 0 a = x", "", "x"},
		{"add 0 a = b + b; add 0 b = b + a + b", "{0 1} {1 1} {1 0}", ""},
		{"add 0 a = x + y + x; add 0 b = y + z", "", "x y z"},
		{"add 0 c = b + a; add 0 a = 1; add 0 b = c + a", "{0 2} {0 1} {2 0} {2 1}", ""},
		{"add 0 c = x + a + y + b; add 0 b = 1; add 0 a = 1", "{0 2} {0 1}", "x y"},
		{"add 0 a = if x then b else let $b = c in $b; add 0 b = wait c . 1", "{0 1}", "x c"},
		{`add 0 a = "b"; add 0 b = let $a = 1 in $a; add 0 c = 1 close fail "a"`, "", ""},
		{"child 0; add 1 a = b; add 0 b = 1", "{0 1}", ""},
		{"child 0; add 0 a = b; add 1 b = a", "{1 0}", "b"},
		{"child 0; add 0 a = b; add 1 b = a; add 0 b = a", "{0 2} {1 0} {2 0}", ""},
		{"child 0; child 0; add 1 a = b; add 2 b = a", "", ""},
		{"child 0; child 1; add 2 a = a + b + c; add 1 b = a + b; add 0 a = 1; add 0 c = c + b", "{0 0} {0 1} {0 3} {1 2} {1 1} {3 3}", "b"},
	} {
		x := treeOf(t, c.steps)
		want(t, arrowsText(x.Arrows()), c.arrows, "Arrows of", c.steps)
		want(t, asked["Missing"](x, 0), c.missing, "Missing of the root of", c.steps)
		did(t, x, "close 0")
		want(t, arrowsText(x.Arrows()), c.arrows, "Arrows of closed ones of", c.steps)
		want(t, asked["Missing"](x, 0), c.missing, "Missing of the closed root of", c.steps)
	}
	few := treeOf(t, fewSteps)
	want(t, arrowsText(few.Arrows()), "{1 0} {2 1} {3 3} {4 2} {5 0} {5 1} {8 8} {8 6}", "Arrows")
	wantEach(t, few, "Missing", "x c e", "y", "c", "z", "", "error 4")
}

// TestWaysOfAsking: b is asked for wherever it stands as a name of a cell, and only there.
func TestWaysOfAsking(t *testing.T) {
	asks := []string{
		"b", "[1, b, 2]", "b - 1", "1 - b", "b & b", "item(1, b)", "size(b)", "b < 1", "1 == b", "if b then 1 else 2", "if 1 then b else 2", "if 1 then 2 else b",
		"try b else 1", "try 1 else b", "fail(b)", "panic(b)", "wait g . b", "let $l = b in 1", "let $l = 1 in b", "let $b = b in $b", "b again close fine",
	}
	for _, s := range asks {
		x := treeOf(t, "child 0; add 1 a = "+s)
		want(t, asked["Missing"](x, 1), "b", "Missing of", s)
		did(t, x, "add 0 b = 1")
		want(t, arrowsText(x.Arrows()), "{0 1}", "Arrows of", s)
		want(t, asked["Missing"](x, 1), "", "Missing of", s, "behind b")
	}
	for _, s := range []string{"1", `"b"`, "wait b . 1", "let $b = 1 in $b", `1 close panic "b"`} {
		x := treeOf(t, "child 0; add 1 a = "+s)
		want(t, asked["Missing"](x, 1), "", "Missing of", s)
		did(t, x, "add 0 b = 1")
		want(t, arrowsText(x.Arrows()), "", "Arrows of", s)
	}
}

func TestMissing(t *testing.T) {
	for _, c := range []struct {
		steps  string
		wanted []string
	}{
		{"child 0", []string{"", ""}},
		{"child 0; add 0 a = z + y + x; add 1 b = z + a + w", []string{"z y x", "z w"}},
		{"child 0; add 1 b = z + y; add 1 c = x + y + z + w; add 0 y = 1", []string{"", "z x w"}},
		{"child 0; add 1 b = z + y; add 1 z = x + y", []string{"", "y x"}},
		{"child 0; child 1; add 0 a = c; add 1 b = c; add 2 c = c + a + b + d", []string{"c", "c", "d"}},
		{"child 0; child 0; add 1 a = b + c; add 2 b = a + c; add 0 c = d + c", []string{"d", "b", "a"}},
		{"child 0; child 1; add 2 a = x1 + x2 + x10 + x; add 2 b = x0 + x10; add 1 x10 = x; add 0 x = 1", []string{"", "", "x1 x2 x0"}},
	} {
		wantEach(t, treeOf(t, c.steps), "Missing", c.wanted...)
	}
}

// TestMissingThen: names that are added later, to the scope itself, to its parents or elsewhere.
func TestMissingThen(t *testing.T) {
	x := treeOf(t, "child 0; child 1; child 0; add 2 a = d + c + b")
	for _, c := range []struct{ step, told, missing, arrows string }{
		{"add 3 d = 1", "1", "d c b", ""},
		{"add 0 c = d", "2", "d b", "{0 2}"},
		{"add 1 b = d", "3", "d", "{0 3}"},
		{"add 2 e = f + d + a", "4", "d f", "{4 0}"},
		{"add 2 a = d", "error 6", "d f", "{4 0}"},
		{"add 1 d = 1", "5", "f", "{0 5}"},
		{"add 2 c = g + c", "6", "f g", "{6 6}"},
		{"close 2", "2", "f g", "{6 6}"},
		{"add 2 f = 1", "error 8", "f g", "{6 6}"},
		{"add 1 f = 1", "7", "g", "{4 7}"},
		{"add 0 g = 1", "8", "", "{6 8}"},
	} {
		want(t, step(x, c.step), c.told, c.step)
		want(t, asked["Missing"](x, 2), c.missing, "Missing behind", c.step)
		if told := arrowsText(x.Arrows()); !strings.Contains(told, c.arrows) {
			t.Errorf("Arrows behind %s: %s, want %s among them", c.step, told, c.arrows)
		}
	}
	want(t, arrowsText(x.Arrows()), "{0 5} {0 6} {0 3} {3 5} {4 7} {4 5} {4 0} {6 8} {6 6}", "Arrows")
}

// TestManyNames: providers ask for as many names as there may be.
func TestManyNames(t *testing.T) {
	x := treeOf(t, "child 0; child 1")
	var missing, arrows []string
	for number := range api.MaxCells {
		p := api.Provider{Name: nth(number)}
		for place := range api.MaxOps - 2 {
			name := "x" + strconv.Itoa(number*api.MaxOps+place)
			missing = append(missing, name)
			p.Expr = append(p.Expr, api.Op{Kind: api.XName, Text: name})
		}
		p.Expr = append(p.Expr, api.Op{Kind: api.XName, Text: "c0"}, api.Op{Kind: api.XList, N: api.MaxOps - 1})
		at := min(number, 1) * 2
		want(t, numberText(x.Add(at, p)), strconv.Itoa(number), "Add")
		arrows = append(arrows, fmt.Sprintf("{%d 0}", number))
	}
	want(t, arrowsText(x.Arrows()), strings.Join(arrows, " "), "Arrows to one")
	want(t, asked["Missing"](x, 0), strings.Join(missing[:api.MaxOps-2], " "), "Missing of the root")
	want(t, asked["Missing"](x, 2), strings.Join(missing[api.MaxOps-2:], " "), "Missing of the last one")
	want(t, asked["Missing"](x, 1), "", "Missing of one without cells")
}

// TestManyArrows: all cells ask for as many others as they can.
func TestManyArrows(t *testing.T) {
	x := chainOf(t, api.MaxScopes)
	var arrows strings.Builder
	for number := range api.MaxCells {
		p := api.Provider{Name: nth(number)}
		for to := api.MaxCells - 1; to > 0; to-- {
			p.Expr = append(p.Expr, api.Op{Kind: api.XName, Text: nth(to)})
			fmt.Fprintf(&arrows, "{%d %d} ", number, to)
		}
		p.Expr = append(p.Expr, api.Op{Kind: api.XList, N: api.MaxCells - 1})
		at := 0
		if number == 0 {
			at = api.MaxScopes - 1
		}
		want(t, numberText(x.Add(at, p)), strconv.Itoa(number), "Add")
	}
	want(t, arrowsText(x.Arrows())+" ", arrows.String(), "Arrows")
	want(t, asked["Missing"](x, 0)+asked["Missing"](x, api.MaxScopes-1), "", "Missing")
}
