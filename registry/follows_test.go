package registry_test

import (
	"fmt"
	"math/rand/v2"
	"slices"
	"strconv"
	"testing"

	"onceweb/api"
	"onceweb/names"
	"onceweb/registry"
)

// someRegistry is a registry behind many calls.
func someRegistry(r *rand.Rand) *registry.Registry {
	x := registry.New()
	most := 1 + r.IntN(40)
	for range r.IntN(3 * most) {
		x.Add(someProvider(r, most))
	}
	if r.IntN(4) == 0 {
		x.Freeze()
	}
	return x
}

// wantAgreed holds Find, Get, Names, Each and Len against each other.
func wantAgreed(t *testing.T, x *registry.Registry) {
	t.Helper()
	all, number := x.Names(), 0
	for told, p := range x.Each() {
		want(t, strconv.Itoa(told), strconv.Itoa(number), "the number that Each tells")
		want(t, p.Name, all[number], "the name that Each tells")
		want(t, numberText(x.Find(p.Name)), strconv.Itoa(number), "Find of", p.Name)
		want(t, gotText(x.Get(number)), providerText(p), "Get of", number)
		number++
	}
	want(t, fmt.Sprint(len(all), x.Len()), fmt.Sprint(number, number), "how many there are")
	want(t, gotText(x.Get(number)), "error 1", "Get of one more")
}

// 17.3: Find and Get and Names agree.
func TestNumbersAgree(t *testing.T) {
	r := rand.New(rand.NewPCG(17, 3))
	for range 300 {
		x := someRegistry(r)
		wantAgreed(t, x)
		wantAgreed(t, x.Clone())
	}
	wantAgreed(t, manyOf(t, api.MaxCells))
}

// 17.3: numbers never change, and names stay in their order.
func TestNumbersStay(t *testing.T) {
	r := rand.New(rand.NewPCG(17, 4))
	for range 50 {
		x := registry.New()
		var all, texts []string
		for range 60 {
			p := someProvider(r, 30)
			number, e := x.Add(p)
			if e == api.OK {
				want(t, strconv.Itoa(number), strconv.Itoa(len(all)), "Add of", p.Name)
				all, texts = append(all, p.Name), append(texts, providerText(p))
			}
			if r.IntN(10) == 0 {
				x = x.Clone()
			}
			want(t, namesText(x.Names()), namesText(all), "Names")
			for number, name := range all {
				want(t, numberText(x.Find(name)), strconv.Itoa(number), "Find of", name)
				want(t, gotText(x.Get(number)), texts[number], "Get of", number)
			}
		}
	}
}

// 17.3: what is refused changes nothing; nor does what is only asked.
func TestRefusedChangesNothing(t *testing.T) {
	full := manyOf(t, api.MaxCells)
	frozen := registryOf(t, "a = x + b", "c = a")
	frozen.Freeze()
	for word, x := range map[string]*registry.Registry{"empty": registry.New(), "few": registryOf(t, "a = x + b", "c = a"), "full": full, "frozen": frozen} {
		was := stateOf(x)
		for what, p := range wrongs() {
			if _, e := x.Add(p); e == api.OK {
				t.Errorf("%s, %s: it was added", word, what)
			}
			want(t, strconv.Itoa(x.Len()), strconv.Itoa(len(x.Names())), word, what)
		}
		for _, name := range x.Names() {
			if number, e := x.Add(providerOf(name + " = more")); e == api.OK {
				t.Errorf("%s: %s was added again: %d", word, name, number)
			}
		}
		if word == "full" || word == "frozen" {
			x.Add(providerOf("b = more"))
		}
		want(t, stateOf(x), was, word, "behind what was refused")
		want(t, stateOf(x), was, word, "asked again")
	}
}

// A refused provider uses up no number.
func TestRefusedUsesNoNumber(t *testing.T) {
	x := registry.New()
	for number := range 20 {
		for _, p := range wrongs() {
			x.Add(p)
		}
		for _, name := range x.Names() {
			x.Add(providerOf(name + " = 1"))
		}
		want(t, numberText(x.Add(providerOf(nth(number)+" = x"))), strconv.Itoa(number), "Add behind what was refused")
	}
}

// What a registry tells of what is asked for is what layer 5 tells of its providers.
func TestAskedAgrees(t *testing.T) {
	r := rand.New(rand.NewPCG(17, 5))
	for range 300 {
		x := someRegistry(r)
		var l []api.Provider
		for _, p := range x.Each() {
			l = append(l, p)
		}
		missing, f := names.Missing(l)
		want(t, fmt.Sprint(x.Missing(), f), fmt.Sprint(missing, api.Fault{}), "Missing")
		for _, name := range slices.Concat(x.Names(), x.Missing(), []string{"none", ""}) {
			_, e := x.Find(name)
			users := x.Users(name)
			if slices.Contains(x.Missing(), name) != (e != api.OK && len(users) > 0) {
				t.Errorf("%s: %v, used by %v, missing %v", name, e, users, x.Missing())
			}
			for _, p := range l {
				asked, _ := names.Asked(p.Expr)
				if slices.Contains(asked, name) != slices.Contains(users, p.Name) {
					t.Errorf("%s asks for %v, %s is used by %v", p.Name, asked, name, users)
				}
			}
		}
	}
}

// threeLines are three providers; threeTexts is what a walk over up to so many of them tells.
var threeLines = []string{"c = a", "a = x", "b = [a, c]"}

func threeTexts(most int) string {
	s := ""
	for number, line := range threeLines[:min(most, len(threeLines))] {
		s += fmt.Sprintf(" %d %s", number, providerText(providerOf(line)))
	}
	return s
}

func TestEachLeft(t *testing.T) {
	each := registryOf(t, threeLines...).Each()
	for _, most := range []int{0, 1, 2, 3, 4, 1, 4, 0, 2} {
		want(t, walk(each, most), threeTexts(most), "Each up to", most)
	}
	calls := 0
	each(func(int, api.Provider) bool { calls++; return false })
	want(t, strconv.Itoa(calls), "1", "how often it goes on when it is left")
	for range each {
		want(t, walk(each, 9), threeTexts(9), "a walk within a walk")
	}
	want(t, walk(registry.New().Each(), 9), "", "Each of an empty one")
}

// TestEachOfThen: Each is of the registry as it was when it was called, whatever comes behind it.
func TestEachOfThen(t *testing.T) {
	changes := map[string]func(x *registry.Registry){
		"Add": func(x *registry.Registry) { x.Add(providerOf(nth(x.Len()) + " = x")) },
		"many": func(x *registry.Registry) {
			for range api.MaxCells {
				x.Add(providerOf(nth(x.Len()) + " = x"))
			}
		},
		"Freeze":  func(x *registry.Registry) { x.Freeze(); x.Add(providerOf("d = 1")) },
		"refused": func(x *registry.Registry) { x.Add(providerOf("a = 2")); x.Add(api.Provider{Name: "d"}) },
	}
	for word, change := range changes {
		x := registryOf(t, threeLines...)
		each := x.Each()
		for range 3 {
			change(x)
			want(t, walk(each, api.MaxCells), threeTexts(9), "Each ahead of", word)
		}
		x = registryOf(t, threeLines...)
		told := 0
		for number, p := range x.Each() {
			change(x)
			want(t, fmt.Sprint(number, " ", providerText(p)), fmt.Sprint(told, " ", providerText(providerOf(threeLines[told]))), "Each, within it", word)
			told++
		}
		want(t, strconv.Itoa(told), "3", "Each, within it", word)
		want(t, walk(x.Each(), api.MaxCells), walk((&shelf{all: allOf(x)}).Each(), api.MaxCells), "Each anew, behind", word)
	}
	x := registry.New()
	each := x.Each()
	add(t, x, "a = 1")
	want(t, walk(each, 9), "", "Each of an empty one, behind Add")
	want(t, walk(x.Each(), 9), " 0 "+providerText(providerOf("a = 1")), "Each called anew")
}

// allOf is all that Get tells.
func allOf(x *registry.Registry) []api.Provider {
	var l []api.Provider
	for number := range x.Len() {
		p, _ := x.Get(number)
		l = append(l, p)
	}
	return l
}
