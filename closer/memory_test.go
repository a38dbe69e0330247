package closer_test

import (
	"fmt"
	"math/rand/v2"
	"slices"
	"testing"

	"onceweb/api"
	"onceweb/closer"
)

// R3: what is handed in is not changed and not kept, spare room too; what is answered is new memory, spare room too.

// answer is what a call told: its list, and its failure.
type answer struct {
	list []int
	fail api.Fail
	code api.Errno
}

func (a answer) text() string { return fmt.Sprint(a.list, a.fail, a.code) }

var (
	oddPart  = api.Part{Scope: 99, Name: "Odd", Ended: -99, Closer: api.Closer{Kind: 99}}
	oddCrack = api.Crack{Kind: 99, N: 99, Text: "odd"}
)

// scribble writes over all of l, its spare room too.
func scribble[T any](l []T, by T) {
	l = l[:cap(l)]
	for i := range l {
		l[i] = by
	}
}

func (a answer) scribble() {
	scribble(a.list, -77)
	scribble(a.fail, oddCrack)
}

// args are what calls are given.
type args struct {
	parents, order []int
	l              []api.Part
	scope          int
}

// answers are the calls that answer something beside an error.
var answers = map[string]func(a args) answer{
	"Beneath": func(a args) answer { l, e := closer.Beneath(a.parents, a.scope); return answer{l, nil, e} },
	"Order":   func(a args) answer { l, e := closer.Order(a.parents, a.l, a.scope); return answer{l, nil, e} },
	"Fails":   func(a args) answer { f, e := closer.Fails(a.l, a.order); return answer{nil, f, e} },
	"Close":   func(a args) answer { l, f, e := closer.Close(a.parents, a.l, a.scope); return answer{l, f, e} },
	"Check":   func(a args) answer { return answer{nil, nil, closer.Check(a.parents, a.l)} },
}

// spare is l, with spare room that has something in it.
func spare[T any](l []T, odd T) []T {
	return append(slices.Clone(l), odd, odd, odd)[:len(l)]
}

func (a args) roomy() args {
	l := spare(a.l, oddPart)
	for place := range l {
		l[place].Uses = spare(l[place].Uses, -77)
	}
	return args{spare(a.parents, -77), spare(a.order, -77), l, a.scope}
}

// text is all that the arguments' memory has, spare room too.
func (a args) text() string {
	s := fmt.Sprint(a.parents[:cap(a.parents)], a.order[:cap(a.order)], a.l[:cap(a.l)], a.scope)
	for _, p := range a.l {
		s += fmt.Sprint(p.Uses[:cap(p.Uses)])
	}
	return s
}

func (a args) scribble() {
	for _, p := range a.l {
		scribble(p.Uses, -99)
	}
	scribble(a.parents, -99)
	scribble(a.order, -99)
	scribble(a.l, oddPart)
}

// someArgs are arguments that are right, and some that are not.
func someArgs() []args {
	all := []args{
		{},
		{parents: single, l: partsOf("a:2 b !no; b:1 ?oh"), order: []int{1, 0, 1}},
		{parents: single, l: partsOf("a:1 b; b:1 a; c:1; d:1"), order: []int{0, 1, 2, 3}},
		{parents: under, l: partsOf("a/1:1 x !a; x b; b/1:2 ?b; c:3 a b +"), order: []int{2, 1, 0}, scope: 1},
		{parents: tree, l: partsOf("a:1; b/1:2; c/2:3; d/3:4; e/4:5"), scope: 1},
		{parents: chain(api.MaxScopes), l: manyParts(api.MaxCells), order: falling(api.MaxCells-1, 0), scope: 5},
		{parents: single, l: partsOf("a:1"), order: []int{0, 1}, scope: 1},
	}
	r := rand.New(rand.NewPCG(19, 20))
	for number := range 300 {
		parents := someParents(r, 6)
		a := args{parents, nil, someParts(r, len(parents), 12), r.IntN(len(parents))}
		a.order = someOrder(r, len(a.l))
		if number%5 == 0 {
			faults := allFaults()
			faults[r.IntN(len(faults))].spoil(&a.l[r.IntN(len(a.l))], len(parents), len(a.l))
		}
		all = append(all, a)
	}
	return all
}

func TestArgumentsAreLeft(t *testing.T) {
	for _, of := range someArgs() {
		a := of.roomy()
		was := a.text()
		for name, call := range answers {
			told := call(a)
			wanted := call(of).text()
			want(t, told.text(), wanted, name, "with spare room")
			want(t, a.text(), was, name, "and its arguments")
			told.scribble()
			want(t, a.text(), was, name, "and its arguments, its answer scribbled over")
			want(t, call(a).text(), wanted, name, "again, its answer scribbled over")
		}
	}
}

func TestAnswersAreNew(t *testing.T) {
	for _, of := range someArgs() {
		for name, call := range answers {
			a := of.roomy()
			told := call(a)
			was := told.text()
			a.scribble()
			want(t, told.text(), was, name, ": its answer, its arguments scribbled over")
			for _, other := range answers {
				other(of.roomy()).scribble()
			}
			want(t, told.text(), was, name, ": its answer, others scribbled over")
		}
	}
}

// R6: the same call tells the same, whatever was called ahead of it.
func TestSameAgain(t *testing.T) {
	all := someArgs()
	first := map[string][]string{}
	for name, call := range answers {
		for _, a := range all {
			first[name] = append(first[name], call(a).text())
		}
	}
	r := rand.New(rand.NewPCG(19, 21))
	for range 2000 {
		i := r.IntN(len(all))
		for name, call := range answers {
			want(t, call(all[i]).text(), first[name][i], name, "again")
		}
	}
}

// R2: a list without an element may be nil or empty.
func TestNilOrEmpty(t *testing.T) {
	for _, parents := range [][]int{nil, {}} {
		for _, l := range [][]api.Part{nil, {}} {
			want(t, checkText(closer.Check(parents, l)), "ok", "Check of nothing")
			want(t, closeText(parents, l, 0), "error 1", "Close of nothing")
			want(t, closeText(single, l, 0), ": nothing", "Close without parts")
			for _, order := range [][]int{nil, {}} {
				want(t, failText(closer.Fails(l, order)), "nothing", "Fails of nothing")
			}
		}
	}
	for _, uses := range [][]int{nil, {}} {
		l := []api.Part{{Name: "a", Ready: true, Ended: 1, Uses: uses}, {Name: "b", Ready: true, Ended: 2, Uses: uses}}
		want(t, closeText(single, l, 0), "b a: nothing", "Close of parts without uses")
	}
}
