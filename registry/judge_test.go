package registry_test

import (
	"fmt"
	"iter"
	"math/rand/v2"
	"slices"
	"strings"
	"testing"

	"onceweb/api"
	"onceweb/names"
	"onceweb/registry"
)

// registering is what a registry, and what it is held against, can do.
type registering interface {
	Add(p api.Provider) (int, api.Errno)
	Find(name string) (int, api.Errno)
	Get(number int) (api.Provider, api.Errno)
	Names() []string
	Missing() []string
	Users(name string) []string
	Each() iter.Seq2[int, api.Provider]
	Freeze()
	Frozen() bool
	Len() int
}

// shelf is a registry as a list that is read from its front on whatever is asked of it, by the chapter's words. What it is given is never written over.
type shelf struct {
	all    []api.Provider
	frozen bool
}

func (s *shelf) Add(p api.Provider) (int, api.Errno) {
	_, found := s.Find(p.Name)
	switch wrong := names.CheckProvider(p); {
	case s.frozen:
		return 0, api.ErrState
	case wrong != api.OK:
		return 0, wrong
	case found == api.OK:
		return 0, api.ErrTwice
	case len(s.all) == api.MaxCells:
		return 0, api.ErrLong
	}
	s.all = append(slices.Clone(s.all), p)
	return s.Find(p.Name)
}

func (s *shelf) Find(name string) (int, api.Errno) {
	for number, p := range s.all {
		if p.Name == name {
			return number, api.OK
		}
	}
	return 0, api.ErrNone
}

func (s *shelf) Get(number int) (api.Provider, api.Errno) {
	for place, p := range s.all {
		if place == number {
			return p, api.OK
		}
	}
	return api.Provider{}, api.ErrRange
}

func (s *shelf) Names() []string {
	var l []string
	for _, p := range s.all {
		l = append(l, p.Name)
	}
	return l
}

func (s *shelf) Missing() []string {
	var l []string
	for _, p := range s.all {
		for _, op := range p.Expr {
			if _, e := s.Find(op.Text); op.Kind == api.XName && e != api.OK && !slices.Contains(l, op.Text) {
				l = append(l, op.Text)
			}
		}
	}
	return l
}

func (s *shelf) Users(name string) []string {
	var l []string
	for _, p := range s.all {
		if slices.Contains(p.Expr, api.Op{Kind: api.XName, Text: name}) {
			l = append(l, p.Name)
		}
	}
	return l
}

func (s *shelf) Each() iter.Seq2[int, api.Provider] { return slices.All(s.all) }

func (s *shelf) Freeze() { s.frozen = true }

func (s *shelf) Frozen() bool { return s.frozen }

func (s *shelf) Len() int { return len(s.all) }

// someNames are names that providers of the tests have, and ask for.
var someNames = []string{"a", "b", "c", "d", "e", "x", "y", ""}

// stateOf is all that a registry tells of itself.
func stateOf(r registering) string {
	var s strings.Builder
	fmt.Fprintf(&s, "%d %v; %q; missing %q", r.Len(), r.Frozen(), r.Names(), r.Missing())
	for _, name := range slices.Concat(someNames, r.Names()) {
		fmt.Fprintf(&s, "; %s: %s, users %q", name, numberText(r.Find(name)), r.Users(name))
	}
	for number := -1; number <= r.Len()+1; number++ {
		fmt.Fprintf(&s, "; %d: %s", number, gotText(r.Get(number)))
	}
	fmt.Fprintf(&s, "; each%s", walk(r.Each(), api.MaxCells+1))
	return s.String()
}

// walk is what an iterator tells, up to so many.
func walk(each iter.Seq2[int, api.Provider], most int) string {
	var s strings.Builder
	told := 0
	for number, p := range each {
		if told == most {
			break
		}
		fmt.Fprintf(&s, " %d %s", number, providerText(p))
		told++
	}
	return s.String()
}

// wantSame adds p to both, or freezes both if p has no name and no expression, and holds the answers against each other.
func wantSame(t *testing.T, r *registry.Registry, s *shelf, p api.Provider) {
	t.Helper()
	if p.Name == "" && p.Expr == nil {
		r.Freeze()
		s.Freeze()
		return
	}
	got, wanted := numberText(r.Add(p)), numberText(s.Add(p))
	if got != wanted {
		t.Fatalf("%q and %s: %s, want %s", s.Names(), providerText(p), got, wanted)
	}
}

func wantState(t *testing.T, r *registry.Registry, s *shelf, what ...any) {
	t.Helper()
	if got, wanted := stateOf(r), stateOf(s); got != wanted {
		t.Fatalf("%s:\n%s, want\n%s", strings.TrimSpace(fmt.Sprintln(what...)), got, wanted)
	}
}

// fewSteps are a freezing, and providers that are right or not.
func fewSteps() []api.Provider {
	l := []api.Provider{{}}
	for _, s := range []string{"a = b", "a = a + x", "b = 1 again close fine", "b = y + a + x + y", "c = [b, c, y]"} {
		l = append(l, providerOf(s))
	}
	broken := providerOf("b = x")
	broken.Policy.Tries = -1
	return append(l, api.Provider{Name: "B", Expr: l[1].Expr}, api.Provider{Name: "a", Expr: api.Expr{}}, broken)
}

// everywhere goes on from a registry and its judge by each step, so many steps deep.
func everywhere(t *testing.T, r *registry.Registry, s *shelf, deep int) {
	t.Helper()
	for _, p := range fewSteps() {
		nextRegistry, nextShelf := r.Clone(), &shelf{s.all, s.frozen}
		each, was := nextRegistry.Each(), walk(s.Each(), api.MaxCells)
		wantSame(t, nextRegistry, nextShelf, p)
		wantState(t, nextRegistry, nextShelf, s.Names(), "and", providerText(p))
		want(t, walk(each, api.MaxCells), was, "Each ahead of", providerText(p))
		if deep > 1 {
			everywhere(t, nextRegistry, nextShelf, deep-1)
		}
	}
	// Had a clone's steps reached the registry, it would show here.
	wantState(t, r, s, "behind its clones' steps")
}

func TestEverywhere(t *testing.T) { everywhere(t, registry.New(), &shelf{}, 4) }

// someProvider is one by chance, mostly right, of one of so many names, that asks for some.
func someProvider(r *rand.Rand, most int) api.Provider {
	p := api.Provider{Name: nth(r.IntN(most)), Again: r.IntN(2) == 0}
	n := r.IntN(5)
	for range n {
		p.Expr = append(p.Expr, someLeaf(r, most))
	}
	p.Expr = append(p.Expr, api.Op{Kind: api.XList, N: n})
	switch r.IntN(20) {
	case 0:
		p.Name = []string{"", "A", "cell", "a b", strings.Repeat("c", api.MaxName+1)}[r.IntN(5)]
	case 1:
		p.Expr[n].N++
	case 2:
		p.Policy = api.Policy{Tries: r.IntN(66), Factor: r.IntN(18)}
	case 3:
		p.Closer = api.Closer{Kind: r.IntN(5), Text: []string{"", "x"}[r.IntN(2)]}
	}
	return p
}

func someLeaf(r *rand.Rand, most int) api.Op {
	switch r.IntN(5) {
	case 0:
		return api.Op{Kind: api.XInt, Int: r.IntN(9)}
	case 1:
		return api.Op{Kind: api.XText, Text: nth(r.IntN(most))}
	case 2:
		return api.Op{Kind: api.XName, Text: someNames[r.IntN(7)]}
	}
	return api.Op{Kind: api.XName, Text: nth(r.IntN(most))}
}

func TestByChance(t *testing.T) {
	r := rand.New(rand.NewPCG(17, 1))
	for range 400 {
		most := []int{2, 5, 20}[r.IntN(3)]
		x, s := registry.New(), &shelf{}
		for range r.IntN(3 * most) {
			p := someProvider(r, most)
			if r.IntN(100) == 0 {
				p = api.Provider{}
			}
			wantSame(t, x, s, p)
			wantState(t, x, s, s.Names())
			if r.IntN(20) == 0 {
				x = x.Clone()
			}
		}
	}
}

func TestFullByChance(t *testing.T) {
	r := rand.New(rand.NewPCG(17, 2))
	for range 5 {
		x, s := registry.New(), &shelf{}
		for range 2000 {
			wantSame(t, x, s, someProvider(r, api.MaxCells+20))
		}
		wantState(t, x, s, "many")
		want(t, fmt.Sprint(x.Len()), fmt.Sprint(api.MaxCells), "Len")
		wantState(t, x.Clone(), s, "a clone of many")
		wantSame(t, x, s, api.Provider{})
		wantSame(t, x, s, someProvider(r, api.MaxCells+20))
		wantState(t, x, s, "many, frozen")
	}
}
