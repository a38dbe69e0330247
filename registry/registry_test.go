package registry_test

import (
	"fmt"
	"math"
	"slices"
	"strconv"
	"strings"
	"testing"

	"onceweb/api"
	"onceweb/grammar"
	"onceweb/registry"
)

// providerOf reads a provider as these tests write it: a = b + 1.
func providerOf(s string) api.Provider {
	p, f := grammar.ReadOne("cell " + s + ";")
	if f.Code != api.OK {
		panic(fmt.Sprint("no provider: ", s, f))
	}
	return p
}

// registryOf is a registry to which these were added.
func registryOf(t *testing.T, l ...string) *registry.Registry {
	t.Helper()
	r := registry.New()
	add(t, r, l...)
	return r
}

func add(t *testing.T, r *registry.Registry, l ...string) {
	t.Helper()
	for _, s := range l {
		if _, e := r.Add(providerOf(s)); e != api.OK {
			t.Fatalf("%s: %v", s, e)
		}
	}
}

// nth is the name of the provider of that number in a registry of many.
func nth(number int) string { return "c" + strconv.Itoa(number) }

// manyOf is a registry of so many providers, each of which asks for the one behind it.
func manyOf(t *testing.T, n int) *registry.Registry {
	t.Helper()
	r := registry.New()
	for number := range n {
		add(t, r, nth(number)+" = "+nth(number+1))
	}
	return r
}

func want(t *testing.T, got, wanted string, what ...any) {
	t.Helper()
	if got != wanted {
		t.Errorf("%s: %s, want %s", strings.TrimSpace(fmt.Sprintln(what...)), got, wanted)
	}
}

// numberText is a number that was answered, or the error; anything beside one is odd.
func numberText(number int, e api.Errno) string {
	switch {
	case e == api.OK:
		return strconv.Itoa(number)
	case number == 0:
		return e.Error()
	}
	return fmt.Sprint("odd: ", number, e)
}

func providerText(p api.Provider) string {
	var words []string
	for _, op := range p.Expr {
		words = append(words, fmt.Sprintf("%d/%d/%d/%.50q", op.Kind, op.N, op.Int, op.Text))
	}
	return fmt.Sprintf("%.50q %v %v %v %d/%.50q", p.Name, words, p.Again, p.Policy, p.Closer.Kind, p.Closer.Text)
}

func gotText(p api.Provider, e api.Errno) string {
	switch {
	case e == api.OK:
		return providerText(p)
	case providerText(p) == providerText(api.Provider{}):
		return e.Error()
	}
	return fmt.Sprint("odd: ", providerText(p), e)
}

func namesText(l []string) string { return strings.Join(l, " ") }

// 17.1

func TestAddNumbers(t *testing.T) {
	r := registry.New()
	want(t, fmt.Sprint(r.Len(), len(r.Names()), len(r.Missing()), len(r.Users("a")), r.Frozen()), "0 0 0 0 false", "a new registry")
	want(t, gotText(r.Get(0)), "error 1", "Get of a new registry")
	want(t, numberText(r.Find("a")), "error 4", "Find of a new registry")
	for number := range api.MaxCells {
		want(t, numberText(r.Add(providerOf(nth(number)+" = 1"))), strconv.Itoa(number), "Add")
		want(t, strconv.Itoa(r.Len()), strconv.Itoa(number+1), "Len")
	}
	for range 2 {
		want(t, numberText(r.Add(providerOf("more = 1"))), "error 3", "Add of one more")
		want(t, strconv.Itoa(r.Len()), strconv.Itoa(api.MaxCells), "Len behind one more")
	}
}

func TestExample(t *testing.T) {
	r := registry.New()
	want(t, numberText(r.Add(providerOf("a = b"))), "0", "Add a")
	want(t, namesText(r.Missing()), "b", "Missing ahead of b")
	want(t, numberText(r.Add(providerOf("b = 1"))), "1", "Add b")
	want(t, numberText(r.Add(providerOf("a = 2"))), "error 6", "Add a again")
	want(t, namesText(r.Missing()), "", "Missing")
	want(t, namesText(r.Users("b")), "a", "Users of b")
	r.Freeze()
	want(t, numberText(r.Add(providerOf("c = 3"))), "error 7", "Add to a frozen one")
}

// wrongs are providers that are not right, of the name a where the name is; by what is wrong.
func wrongs() map[string]api.Provider {
	one, long := api.Expr{{Kind: api.XInt, Int: 1}}, strings.Repeat("x", api.MaxWord+1)
	deep := slices.Clone(one)
	for range api.MaxNest {
		deep = append(deep, api.Op{Kind: api.XSize, N: 1})
	}
	return map[string]api.Provider{
		"2 no name":     {Expr: one},
		"2 a keyword":   {Name: "cell", Expr: one},
		"2 a long name": {Name: strings.Repeat("a", api.MaxName+1), Expr: one},
		"2 name, expr":  {Name: "A", Policy: api.Policy{Tries: -1}, Closer: api.Closer{Kind: 9}},
		"5 no expr":     {Name: "a"},
		"5 two wholes":  {Name: "a", Expr: api.Expr{one[0], one[0]}, Policy: api.Policy{Tries: -1}},
		"5 unbound":     {Name: "a", Expr: api.Expr{{Kind: api.XLocal, Text: "x"}}},
		"3 operations":  {Name: "a", Expr: slices.Repeat(one, api.MaxOps+1), Closer: api.Closer{Kind: 9}},
		"3 a long text": {Name: "a", Expr: api.Expr{{Kind: api.XText, Text: long}}},
		"3 too deep":    {Name: "a", Expr: deep},
		"50 policy":     {Name: "a", Expr: one, Policy: api.Policy{Tries: 65, Factor: 1}, Closer: api.Closer{Kind: 9}},
		"51 closer":     {Name: "a", Expr: one, Closer: api.Closer{Kind: api.ClosePanic + 1}},
		"51 its text":   {Name: "a", Expr: one, Closer: api.Closer{Kind: api.CloseFine, Text: "x"}},
		"3 its text":    {Name: "a", Expr: one, Closer: api.Closer{Kind: api.CloseFail, Text: long}},
	}
}

// TestAddErrors: of each registry the first error of the chapter's order is told.
func TestAddErrors(t *testing.T) {
	for what, p := range wrongs() {
		number, _, _ := strings.Cut(what, " ")
		frozen, full := registryOf(t, "a = 1"), registryOf(t, "a = 1")
		for number := range api.MaxCells - 1 {
			add(t, full, nth(number)+" = 1")
		}
		frozen.Freeze()
		want(t, numberText(registry.New().Add(p)), "error "+number, what)
		want(t, numberText(registryOf(t, "a = 1").Add(p)), "error "+number, what, "of a name that is there")
		want(t, numberText(full.Add(p)), "error "+number, what, "to a full one")
		want(t, numberText(frozen.Add(p)), "error 7", what, "to a frozen one")
		full.Freeze()
		want(t, numberText(full.Add(p)), "error 7", what, "to a full one that is frozen")
	}
}

func TestAddOfWhatIsThere(t *testing.T) {
	r := registryOf(t, "a = 1", "b = 2", "c = b")
	for _, s := range []string{"a = 1", "a = 2", "b = 2", "c = c", "c = d"} {
		want(t, numberText(r.Add(providerOf(s))), "error 6", "Add", s)
	}
	want(t, numberText(r.Add(providerOf("d = 1"))), "3", "Add of d")
	want(t, numberText(r.Add(providerOf("d = 1"))), "error 6", "Add of d again")
	full := manyOf(t, api.MaxCells)
	for _, number := range []int{0, 100, api.MaxCells - 1} {
		want(t, numberText(full.Add(providerOf(nth(number)+" = 1"))), "error 6", "a full one: Add", number)
	}
	want(t, numberText(full.Add(providerOf(nth(api.MaxCells)+" = 1"))), "error 3", "a full one: Add of another name")
	full.Freeze()
	for _, number := range []int{0, api.MaxCells - 1, api.MaxCells} {
		want(t, numberText(full.Add(providerOf(nth(number)+" = 1"))), "error 7", "a full one that is frozen: Add", number)
	}
}

func TestFind(t *testing.T) {
	r := registryOf(t, "b = x", "a = b", "c1 = a")
	r.Add(api.Provider{Name: "refused"})
	r.Add(providerOf("a = c"))
	odd := []string{"", "x", "refused", "c", "c12", "A", "a ", " a", "a\x00", "cell", "\xff", "é", strings.Repeat("a", api.MaxName+1), strings.Repeat("a", 1<<17)}
	for _, name := range odd {
		want(t, numberText(r.Find(name)), "error 4", "Find", name)
	}
	for number, name := range []string{"b", "a", "c1"} {
		want(t, numberText(r.Find(name)), strconv.Itoa(number), "Find", name)
	}
	r.Freeze()
	r.Add(providerOf("late = 1"))
	want(t, numberText(r.Find("late")), "error 4", "Find of one that came too late")
	want(t, numberText(r.Find("c1")), "2", "Find in a frozen one")
}

func TestGet(t *testing.T) {
	whole := providerOf(`a = if b < 3 then [b, "x"] else -1 again tries 3 base 1 factor 2 cap 10 close fail "no"`)
	r := registry.New()
	r.Add(whole)
	add(t, r, "b = 1", "c = a + b")
	for number, s := range []string{providerText(whole), providerText(providerOf("b = 1")), providerText(providerOf("c = a + b"))} {
		want(t, gotText(r.Get(number)), s, "Get", number)
	}
	for _, number := range []int{-1, 3, 4, -3, api.MaxCells, math.MinInt, math.MaxInt, 1 << 32, -1 << 32} {
		want(t, gotText(r.Get(number)), "error 1", "Get", number)
	}
	full := manyOf(t, api.MaxCells)
	want(t, gotText(full.Get(api.MaxCells-1)), providerText(providerOf("c255 = c256")), "Get of the last one")
	want(t, gotText(full.Get(api.MaxCells)), "error 1", "Get of one more")
}

func TestNames(t *testing.T) {
	var wanted []string
	r := registry.New()
	for _, name := range []string{"z", "a", "m", "b", "a1", "a_", "l", "z0"} {
		want(t, namesText(r.Names()), namesText(wanted), "Names ahead of", name)
		add(t, r, name+" = y + "+name)
		wanted = append(wanted, name)
	}
	want(t, namesText(r.Names()), "z a m b a1 a_ l z0", "Names")
}

// 17.2

// TestWaysOfAsking: x is asked for wherever it stands as a name of a cell, and only there.
func TestWaysOfAsking(t *testing.T) {
	asks := []string{
		"x", "[x]", "[1, x, 2]", "x + 1", "1 + x", "x - 1", "1 - x", "x * 1", "1 * x", "x & 1", "1 & x", "item(x, 1)", "item(1, x)", "size(x)", "x < 1", "1 < x", "x == 1", "1 == x",
		"if x then 1 else 2", "if 1 then x else 2", "if 1 then 2 else x", "try x else 1", "try 1 else x", "fail(x)", "panic(x)", "wait g . x", "let $l = x in 1", "let $l = 1 in x",
		"let $x = x in $x", "if 0 then [1, [wait x . [size(x)]]] else 2", "x again close fine", "x tries 2 base 1 factor 1 cap 1", `x close panic "x"`,
	}
	for _, s := range asks {
		r := registryOf(t, "a = "+s)
		want(t, namesText(r.Missing()), "x", "Missing of", s)
		want(t, namesText(r.Users("x")), "a", "Users of", s)
	}
	for _, s := range []string{"1", `"x"`, "wait x . 1", "let $x = 1 in $x", `1 close fail "x"`, `1 close panic "x"`} {
		r := registryOf(t, "a = "+s)
		want(t, namesText(r.Missing()), "", "Missing of", s)
		want(t, namesText(r.Users("x")), "", "Users of", s)
	}
}

func TestMissing(t *testing.T) {
	for _, c := range []struct{ l, wanted string }{
		{"", ""},
		{"a = 1", ""},
		{"a = a", ""},
		{"a = a + x + a", "x"},
		{"a = x + x", "x"},
		{"a = x; b = x", "x"},
		{"a = z + y; b = x + y + z; c = w + x", "z y x w"},
		{"a = b; b = a", ""},
		{"a = b + c; c = d + b", "b d"},
		{"a = d + c + b; b = 1; c = e", "d e"},
		{"b = 1; a = b", ""},
		{"a = y; x = 1; b = x + z + y", "y z"},
		{"a = x1; b = x2 + x10 + x", "x1 x2 x10 x"},
	} {
		var l []string
		if c.l != "" {
			l = strings.Split(c.l, "; ")
		}
		want(t, namesText(registryOf(t, l...).Missing()), c.wanted, "Missing of", c.l)
	}
}

// TestMissingThen: what is added later is not missing any more, and asks for more.
func TestMissingThen(t *testing.T) {
	r := registryOf(t, "a = d + c + b")
	for _, step := range []struct{ s, wanted string }{
		{"c = e", "d b e"}, {"b = 1", "d e"}, {"e = f + a", "d f"}, {"d = g + f", "f g"}, {"f = 1", "g"}, {"g = g", ""},
	} {
		add(t, r, step.s)
		want(t, namesText(r.Missing()), step.wanted, "Missing behind", step.s)
	}
	r = registryOf(t, "a = d")
	r.Add(api.Provider{Name: "d"})
	r.Add(providerOf("a = e"))
	want(t, namesText(r.Missing()), "d", "Missing behind what was refused")
	r.Freeze()
	r.Add(providerOf("d = e"))
	want(t, namesText(r.Missing()), "d", "Missing of a frozen one")
}

func TestUsers(t *testing.T) {
	r := registryOf(t, "d = a + a + x", "a = b", "c = x", "b = x + c + x + x", "e = e + c")
	r.Add(providerOf("d = b"))
	r.Add(api.Provider{Name: "f", Expr: api.Expr{{Kind: api.XName, Text: "b"}, {Kind: api.XName, Text: "b"}}})
	odd := []string{"d", "f", "z", "", "A", "cell", "xx", "x ", "\xff", "é", strings.Repeat("x", 1<<17)}
	for name, users := range map[string]string{"x": "d c b", "a": "d", "b": "a", "c": "b e", "e": "e"} {
		want(t, namesText(r.Users(name)), users, "Users of", name)
	}
	for _, name := range odd {
		want(t, namesText(r.Users(name)), "", "Users of", name)
	}
	full := manyOf(t, api.MaxCells)
	want(t, namesText(full.Users(nth(api.MaxCells))), nth(api.MaxCells-1), "Users of one that is not there")
	want(t, namesText(full.Users(nth(0))), "", "Users of one that nobody asks for")
}

// TestManyNames: providers ask for as many names as there may be.
func TestManyNames(t *testing.T) {
	r := registry.New()
	var missing []string
	for number := range api.MaxCells {
		p := api.Provider{Name: nth(number)}
		for place := range api.MaxOps - 1 {
			name := "x" + strconv.Itoa(number*(api.MaxOps-1)+place)
			missing = append(missing, name)
			p.Expr = append(p.Expr, api.Op{Kind: api.XName, Text: name})
		}
		p.Expr = append(p.Expr, api.Op{Kind: api.XList, N: api.MaxOps - 1})
		want(t, numberText(r.Add(p)), strconv.Itoa(number), "Add")
	}
	if !slices.Equal(r.Missing(), missing) {
		t.Errorf("Missing: %d, want %d", len(r.Missing()), len(missing))
	}
	want(t, namesText(r.Users(missing[len(missing)-1])), nth(api.MaxCells-1), "Users of the last name")
	r = registry.New()
	var all []string
	for number := range api.MaxCells {
		add(t, r, nth(number)+" = x + "+nth(number))
		all = append(all, nth(number))
	}
	want(t, namesText(r.Missing()), "x", "Missing of one that all ask for")
	want(t, namesText(r.Users("x")), namesText(all), "Users of one that all ask for")
}

func TestFreeze(t *testing.T) {
	r := registryOf(t, "a = b")
	want(t, fmt.Sprint(r.Frozen()), "false", "Frozen of a new one")
	for range 2 {
		r.Freeze()
		want(t, fmt.Sprint(r.Frozen()), "true", "Frozen")
		want(t, numberText(r.Add(providerOf("b = 1"))), "error 7", "Add")
		want(t, stateOf(r), stateOf(&shelf{all: []api.Provider{providerOf("a = b")}, frozen: true}), "the registry")
	}
	empty := registry.New()
	empty.Freeze()
	want(t, numberText(empty.Add(providerOf("b = 1"))), "error 7", "Add to an empty one")
	want(t, strconv.Itoa(empty.Len()), "0", "Len of an empty one")
}
