package registry_test

import (
	"fmt"
	"math/rand/v2"
	"slices"
	"strconv"
	"testing"

	"onceweb/api"
	"onceweb/registry"
)

// R3: what is handed in is not changed and not kept, spare room too; what is answered is new memory, spare room too; a clone shares nothing.

// scribble writes over all of l, its spare room too.
func scribble[T any](l []T, by T) {
	l = l[:cap(l)]
	for i := range l {
		l[i] = by
	}
}

var oddOp = api.Op{Kind: 99, N: 99, Int: 99, Text: "odd"}

// roomy is p with an expression of its own that has spare room with something in it.
func roomy(p api.Provider) api.Provider {
	e := append(slices.Clone(p.Expr), oddOp, api.Op{Kind: api.XName, Text: "spare"}, oddOp)
	p.Expr = e[:len(p.Expr)]
	return p
}

// roomyText is all that a provider's memory has, spare room too.
func roomyText(p api.Provider) string {
	return providerText(p) + fmt.Sprint(p.Expr[:cap(p.Expr)])
}

// TestGivenIsLeft: what was handed to Add is as it was, and may be written over then.
func TestGivenIsLeft(t *testing.T) {
	r := rand.New(rand.NewPCG(17, 6))
	for range 200 {
		x, y := registry.New(), registry.New()
		var given []api.Provider
		for range 12 {
			p := someProvider(r, 10)
			big := roomy(p)
			was := roomyText(big)
			want(t, numberText(x.Add(big)), numberText(y.Add(p)), "Add of one with spare room")
			want(t, roomyText(big), was, "what was given")
			given = append(given, big)
		}
		texts := stateOf(y)
		want(t, stateOf(x), texts, "the registry")
		for _, p := range given {
			scribble(p.Expr, oddOp)
		}
		want(t, stateOf(x), texts, "the registry, what it was given scribbled over")
		x.Freeze()
		x.Clone()
		for _, p := range given {
			if slices.ContainsFunc(p.Expr[:cap(p.Expr)], func(op api.Op) bool { return op != oddOp }) {
				t.Fatal("what was given was written to later")
			}
		}
	}
}

var manyLines = []string{"a = x + b + y", "b = 1", "c = [a, b, z, 1, 2, 3]", "d = a + y", "e = if a then b else c"}

// lists are the calls that answer names.
var lists = map[string]func(x *registry.Registry) []string{
	"Names":       (*registry.Registry).Names,
	"Missing":     (*registry.Registry).Missing,
	"Users of a":  func(x *registry.Registry) []string { return x.Users("a") },
	"Users of b":  func(x *registry.Registry) []string { return x.Users("b") },
	"Users of y":  func(x *registry.Registry) []string { return x.Users("y") },
	"Users of no": func(x *registry.Registry) []string { return x.Users("no") },
}

func TestListsAreNew(t *testing.T) {
	for word, of := range lists {
		x := registryOf(t, manyLines...)
		was := stateOf(x)
		for second, next := range lists {
			first, told := of(x), next(x)
			text := namesText(told)
			scribble(first, "odd")
			want(t, namesText(told), text, "two answers:", word, second)
			want(t, stateOf(x), was, "the registry, scribbled over what was answered by", word)
		}
		kept := of(x)
		text, again := namesText(kept), namesText(of(x.Clone()))
		for number := range api.MaxCells {
			x.Add(providerOf(nth(number) + " = a + b + y + no"))
		}
		want(t, namesText(kept), text, "an answer, behind what came later:", word)
		want(t, again, text, "the same of a clone:", word)
	}
}

func TestProvidersAreNew(t *testing.T) {
	x := registryOf(t, manyLines...)
	was := stateOf(x)
	for number := range x.Len() {
		first, _ := x.Get(number)
		second, _ := x.Get(number)
		scribble(first.Expr, oddOp)
		want(t, providerText(second), providerText(providerOf(manyLines[number])), "Get a second time")
		want(t, stateOf(x), was, "the registry, scribbled over what Get told")
	}
	each := x.Each()
	for range 3 {
		var all []api.Provider
		for _, p := range each {
			all = append(all, p)
		}
		for number, p := range all {
			want(t, providerText(p), providerText(providerOf(manyLines[number])), "a walk, those ahead scribbled over")
			scribble(p.Expr, oddOp)
		}
		want(t, stateOf(x), was, "the registry, scribbled over what Each told")
	}
	for _, p := range each {
		scribble(p.Expr, oddOp)
		for number, q := range each {
			want(t, providerText(q), providerText(providerOf(manyLines[number])), "a walk within a walk")
			scribble(q.Expr, oddOp)
		}
	}
	want(t, stateOf(x), was, "the registry")
}

func TestClonesShareNothing(t *testing.T) {
	changes := map[string]func(x *registry.Registry){
		"Add":    func(x *registry.Registry) { x.Add(providerOf("x = w")); x.Add(providerOf("f = a")) },
		"others": func(x *registry.Registry) { x.Add(providerOf("y = a")); x.Add(providerOf("x = 1")) },
		"Freeze": func(x *registry.Registry) { x.Freeze() },
		"nothing": func(x *registry.Registry) {
			x.Add(api.Provider{Name: "x"})
			x.Add(providerOf("a = 1"))
		},
	}
	for word, change := range changes {
		for second, next := range changes {
			for _, l := range [][]string{nil, manyLines, manyLines[:1]} {
				x, plain := registryOf(t, l...), registryOf(t, l...)
				was, y := stateOf(x), x.Clone()
				want(t, stateOf(y), was, "a clone")
				change(x)
				want(t, stateOf(y), was, "a clone, behind a change of its registry:", word)
				behind := stateOf(x)
				next(y)
				want(t, stateOf(x), behind, "a registry, behind a change of its clone:", word, second)
				next(plain)
				want(t, stateOf(y), stateOf(plain), "a clone goes on as its registry would:", second)
			}
		}
	}
}

// TestClonesGrow: both grow by as much, so that one's spare room would be seen in the other.
func TestClonesGrow(t *testing.T) {
	x := registryOf(t, "a = 1", "b = 2", "c = 3")
	y := x.Clone()
	z := y.Clone()
	for number := 3; number < api.MaxCells; number++ {
		for word, r := range map[string]*registry.Registry{"x": x, "y": y, "z": z} {
			want(t, numberText(r.Add(providerOf(word+strconv.Itoa(number)+" = "+word))), strconv.Itoa(number), "Add to", word)
		}
		for word, r := range map[string]*registry.Registry{"x": x, "y": y, "z": z} {
			want(t, gotText(r.Get(number)), providerText(providerOf(word+strconv.Itoa(number)+" = "+word)), "Get of", word)
			want(t, namesText(r.Missing()), word, "Missing of", word)
		}
	}
	want(t, numberText(y.Add(providerOf("more = 1"))), "error 3", "Add to a full one")
}

func TestClonesOfAllKinds(t *testing.T) {
	full, frozen := manyOf(t, api.MaxCells), registryOf(t, manyLines...)
	frozen.Freeze()
	for word, x := range map[string]*registry.Registry{"empty": registry.New(), "full": full, "frozen": frozen, "many": registryOf(t, manyLines...)} {
		y := x.Clone()
		want(t, stateOf(y), stateOf(x), word)
		want(t, fmt.Sprint(y.Frozen()), fmt.Sprint(word == "frozen"), word, "Frozen")
		for _, s := range []string{"a = 1", "c0 = 1", "z = 1"} {
			want(t, numberText(y.Clone().Add(providerOf(s))), numberText(x.Clone().Add(providerOf(s))), word, s)
		}
		z := y.Clone()
		z.Freeze()
		want(t, fmt.Sprint(x.Frozen(), y.Frozen()), fmt.Sprint(word == "frozen", word == "frozen"), word, "behind Freeze of a clone")
		want(t, numberText(z.Add(providerOf("z = 1"))), "error 7", word, "Add to a frozen clone")
	}
}

// TestNewOnes: registries know nothing of each other.
func TestNewOnes(t *testing.T) {
	x, y := registry.New(), registry.New()
	add(t, x, "a = b")
	x.Freeze()
	want(t, stateOf(y), stateOf(registry.New()), "another registry")
	want(t, numberText(y.Add(providerOf("a = c"))), "0", "Add to another registry")
	want(t, namesText(x.Missing())+namesText(y.Missing()), "bc", "Missing of both")
}
