package token_test

import (
	"math"
	"math/rand"
	"slices"
	"strings"
	"testing"

	"onceweb/api"
	"onceweb/fail"
	"onceweb/token"
)

// plainToken is a token that knows what it was told, and works out the rest each time it is asked.
type plainToken struct {
	name      string
	parents   []string
	deadlines []int
	fail      api.Fail // empty: it is not cancelled
}

// plain is the chapter again, without a clock, a map or sets: time goes by tick by tick, and who hangs on whom is asked by recursion.
type plain struct {
	now    int
	tokens []plainToken
	order  []string
}

func (p *plain) clone() *plain {
	q := &plain{now: p.now, tokens: slices.Clone(p.tokens), order: slices.Clone(p.order)}
	for i := range q.tokens {
		q.tokens[i].deadlines = slices.Clone(q.tokens[i].deadlines)
	}
	return q
}

// get is the token of that name; nil, if there is none.
func (p *plain) get(name string) *plainToken {
	for i := range p.tokens {
		if p.tokens[i].name == name {
			return &p.tokens[i]
		}
	}
	return nil
}

func (p *plain) getsAll(names []string) bool {
	return !slices.ContainsFunc(names, func(name string) bool { return p.get(name) == nil })
}

func (p *plain) hangs(k *plainToken, on string) bool {
	return slices.ContainsFunc(k.parents, func(parent string) bool { return parent == on || p.hangs(p.get(parent), on) })
}

func (p *plain) make(name string, parents []string) (bool, api.Errno) {
	switch {
	case len(name) > 1 || name < "a" || name > "z": // the names of these tests have one letter
		return false, api.ErrForm
	case p.get(name) != nil:
		return false, api.ErrTwice
	case len(parents) > token.MaxParents:
		return false, api.ErrLong
	case !p.getsAll(parents):
		return false, api.ErrNone
	}
	p.tokens = append(p.tokens, plainToken{name: name, parents: slices.Clone(parents)})
	for _, done := range p.order {
		if slices.Contains(parents, done) {
			p.get(name).fail = p.get(done).fail
			p.order = append(p.order, name)
			return true, api.OK
		}
	}
	return false, api.OK
}

func (p *plain) cancel(name string, cause api.Fail) ([]string, api.Errno) {
	k := p.get(name)
	switch {
	case k == nil:
		return nil, api.ErrNone
	case len(cause) > 0 && fail.Check(cause) != api.OK:
		return nil, api.ErrShape
	case len(k.fail) > 0:
		return nil, api.OK
	}
	why := by(name, cause...)
	if len(why) > api.MaxCracks {
		why = api.Fail{{Kind: api.FLong}}
	}
	k.fail = why
	told := []string{name}
	for i := range p.tokens {
		if o := &p.tokens[i]; len(o.fail) == 0 && p.hangs(o, name) {
			o.fail = why
			told = append(told, o.name)
		}
	}
	p.order = append(p.order, told...)
	return told, api.OK
}

func (p *plain) until(name string, at int) ([]string, api.Errno) {
	k := p.get(name)
	if k == nil {
		return nil, api.ErrNone
	}
	if at < 0 || at > api.MaxTick {
		return nil, api.ErrRange
	}
	k.deadlines = append(k.deadlines, at)
	if at > p.now {
		return nil, api.OK
	}
	return p.cancel(name, api.Fail{raise("deadline")})
}

func (p *plain) advance(ticks int) ([]string, api.Errno) {
	if ticks < 0 || ticks > api.MaxTick-p.now {
		return nil, api.ErrRange
	}
	var told []string
	for range ticks {
		p.now++
		for _, k := range slices.Clone(p.tokens) {
			if slices.Contains(k.deadlines, p.now) {
				l, _ := p.cancel(k.name, api.Fail{raise("deadline")})
				told = append(told, l...)
			}
		}
	}
	return told, api.OK
}

// limit is the least deadline of a token and of all that it hangs on; below 0: there is none.
func (p *plain) limit(name string) int {
	least := -1
	for _, k := range p.tokens {
		if k.name != name && !p.hangs(p.get(name), k.name) {
			continue
		}
		for _, at := range k.deadlines {
			if least < 0 || at < least {
				least = at
			}
		}
	}
	return least
}

func (p *plain) first(names []string) (string, bool, api.Errno) {
	if !p.getsAll(names) {
		return "", false, api.ErrNone
	}
	for _, done := range p.order {
		if slices.Contains(names, done) {
			return done, true, api.OK
		}
	}
	return "", false, api.OK
}

func (p *plain) names() []string {
	var l []string
	for _, k := range p.tokens {
		l = append(l, k.name)
	}
	return l
}

// pair is a tree and a plain one that were told the same from the beginning on.
type pair struct {
	x *token.Tree
	p *plain
}

func newPair() *pair { return &pair{token.New(), &plain{}} }

func (d *pair) clone() *pair { return &pair{d.x.Clone(), d.p.clone()} }

// wantAgree asks both for all that they tell without being changed.
func (d *pair) wantAgree(t *testing.T) {
	t.Helper()
	wantStand(t, d.x, d.p.now, strings.Join(d.p.names(), " "), strings.Join(d.p.order, " "))
	for _, k := range d.p.tokens {
		wantFail(t, d.x, k.name, k.fail)
		wantLimit(t, d.x, k.name, d.p.limit(k.name))
	}
}

// call is a call of a tree that may change it.
type call struct {
	kind    int
	name    string
	parents []string
	cause   api.Fail
	number  int
}

// Kinds of calls.
const (
	doMake = iota
	doCancel
	doUntil
	doAdvance
)

// do makes one call of both, and holds the answers against each other.
func (d *pair) do(t *testing.T, c call) {
	t.Helper()
	var got, wanted []string
	var done, wantDone bool
	var e, wantE api.Errno
	switch c.kind {
	case doMake:
		done, e = d.x.Make(c.name, c.parents)
		wantDone, wantE = d.p.make(c.name, c.parents)
	case doCancel:
		got, e = d.x.Cancel(c.name, c.cause)
		wanted, wantE = d.p.cancel(c.name, c.cause)
	case doUntil:
		got, e = d.x.Until(c.name, c.number)
		wanted, wantE = d.p.until(c.name, c.number)
	case doAdvance:
		got, e = d.x.Advance(c.number)
		wanted, wantE = d.p.advance(c.number)
	}
	if done != wantDone || e != wantE || !slices.Equal(got, wanted) {
		t.Fatalf("%+v at %d: %v, %v, %v; want %v, %v, %v", c, d.p.now, done, got, e, wantDone, wanted, wantE)
	}
}

// smallCalls are calls of a tree with tokens up to c, near the time 0.
func smallCalls() []call {
	l := []call{{kind: doAdvance}, {kind: doAdvance, number: 1}, {kind: doAdvance, number: 2}}
	for _, parents := range []string{"", "a", "b", "c", "a c", "c b", "b b"} {
		l = append(l, call{kind: doMake, name: "d", parents: strings.Fields(parents)})
	}
	for _, name := range []string{"a", "b", "c", "d"} {
		l = append(l, call{kind: doCancel, name: name}, call{kind: doCancel, name: name, cause: api.Fail{raise("x")}})
		for at := range 3 {
			l = append(l, call{kind: doUntil, name: name, number: at})
		}
	}
	return l
}

// everywhere makes all calls one behind the other, so many deep, and hands over where each row of them comes to.
func (d *pair) everywhere(t *testing.T, calls []call, deep int, look func(d *pair)) {
	t.Helper()
	d.wantAgree(t)
	look(d)
	if t.Failed() {
		t.Fatalf("at %s", stand(d.x))
	}
	if deep == 0 {
		return
	}
	for _, c := range calls {
		next := d.clone()
		next.do(t, c)
		next.everywhere(t, calls, deep-1, look)
	}
}

// small goes through all trees of three tokens, and what so many calls make of each.
func small(t *testing.T, deep int, look func(d *pair)) {
	t.Helper()
	for _, b := range []string{"", "a"} {
		for _, c := range []string{"", "a", "b", "b a"} {
			d := newPair()
			d.do(t, call{kind: doMake, name: "a"})
			d.do(t, call{kind: doMake, name: "b", parents: strings.Fields(b)})
			d.do(t, call{kind: doMake, name: "c", parents: strings.Fields(c)})
			d.everywhere(t, smallCalls(), deep, look)
		}
	}
}

// someName is mostly a token's name, at times that of none, or no name.
func someName(r *rand.Rand) string {
	return []string{"a", "b", "c", "d", "e", "f", "g", "h", "i", "j", "k", "l", "z", "A", ""}[r.Intn(15)]
}

func someNames(r *rand.Rand, most int) []string {
	var l []string
	for range r.Intn(most + 1) {
		l = append(l, string(rune('a'+r.Intn(12))))
	}
	return l
}

func someCause(r *rand.Rand) api.Fail {
	return []api.Fail{nil, {}, {raise("x")}, everyKind(), {{}}, {raise("x"), raise("y")}, chain(api.MaxCracks)}[r.Intn(7)]
}

func (d *pair) someCall(r *rand.Rand) call {
	switch r.Intn(10) {
	case 0, 1, 2, 3, 4:
		return call{kind: doMake, name: someName(r), parents: someNames(r, 3)}
	case 5:
		return call{kind: doCancel, name: someName(r), cause: someCause(r)}
	case 6, 7, 8:
		return call{kind: doUntil, name: someName(r), number: d.p.now + r.Intn(40) - 1}
	}
	return call{kind: doAdvance, number: r.Intn(9) - 1}
}

// chances goes through many trees in many states, from 0 on and just ahead of the last tick.
func chances(t *testing.T, look func(r *rand.Rand, d *pair)) {
	t.Helper()
	r := rand.New(rand.NewSource(4))
	for round := range 300 {
		d := newPair()
		if round%2 == 1 {
			d.p.now = api.MaxTick - r.Intn(60)
			d.x.Advance(d.p.now)
		}
		for range 60 {
			d.do(t, d.someCall(r))
			d.wantAgree(t)
			look(r, d)
			if t.Failed() {
				t.Fatalf("round %d: %s", round, stand(d.x))
			}
		}
	}
}

// 4.1 to 4.6, and R6

func TestSmallTreesAgainstPlainOnes(t *testing.T) {
	small(t, 3, func(d *pair) {
		for _, names := range []string{"a b c", "c b", "b c", "c a"} {
			l := strings.Fields(names)
			name, ok, e := d.x.First(l)
			if wantName, wantOK, wantE := d.p.first(l); name != wantName || ok != wantOK || e != wantE {
				t.Errorf("First of %s: %q, %v, %v; want %q, %v, %v", names, name, ok, e, wantName, wantOK, wantE)
			}
		}
	})
}

func TestAgainstPlainTree(t *testing.T) {
	chances(t, func(r *rand.Rand, d *pair) {
		l := someNames(r, 5)
		name, ok, e := d.x.First(l)
		if wantName, wantOK, wantE := d.p.first(l); name != wantName || ok != wantOK || e != wantE {
			t.Errorf("First of %v: %q, %v, %v; want %q, %v, %v", l, name, ok, e, wantName, wantOK, wantE)
		}
		if r.Intn(10) == 0 {
			d.x = d.x.Clone()
		}
	})
}

func TestClonesGoTheirOwnWays(t *testing.T) {
	chances(t, func(r *rand.Rand, d *pair) {
		if r.Intn(20) > 0 {
			return
		}
		one, two := d.clone(), d.clone()
		for range 15 {
			one.do(t, one.someCall(r))
			two.do(t, two.someCall(r))
		}
		one.wantAgree(t)
		two.wantAgree(t)
		d.wantAgree(t)
	})
}

// 4.7

func TestCancelledStaysCancelled(t *testing.T) {
	chances(t, func(r *rand.Rand, d *pair) {
		order := d.x.Order()
		next := d.clone()
		for range 5 {
			next.do(t, next.someCall(r))
		}
		if after := next.x.Order(); len(after) < len(order) || !slices.Equal(after[:len(order)], order) {
			t.Errorf("the order was %v and is %v", order, after)
		}
		for _, name := range order {
			f, _ := d.x.Fail(name)
			wantFail(t, next.x, name, f)
		}
	})
}

// hasFailureOfAbove tells whether a token that is cancelled was so by itself, or has the failure of one on which it hangs and which was cancelled ahead of it.
func (d *pair) hasFailureOfAbove(name string) bool {
	f, _ := d.x.Fail(name)
	if f[len(f)-1] == (api.Crack{Kind: api.FToken, N: f[len(f)-1].N, Text: name}) {
		return true
	}
	for _, above := range d.x.Order() {
		if above == name {
			break
		}
		if g, _ := d.x.Fail(above); d.p.hangs(d.p.get(name), above) && slices.Equal(f, g) {
			return true
		}
	}
	return slices.Equal(f, api.Fail{{Kind: api.FLong}}) // it does not tell whose it is
}

func TestWhoeverHangsOnCancelledOneIsCancelled(t *testing.T) {
	look := func(d *pair) {
		for _, name := range d.x.Names() {
			done, _ := d.x.Done(name)
			if slices.Contains(d.x.Order(), name) != done {
				t.Errorf("%s: Done tells %v, Order is %v", name, done, d.x.Order())
			}
			if done && !d.hasFailureOfAbove(name) {
				t.Errorf("%s is cancelled, with a failure of none on which it hangs", name)
			}
			for _, above := range d.x.Order() {
				if !done && d.p.hangs(d.p.get(name), above) {
					t.Errorf("%s lives, and hangs on %s, which is cancelled", name, above)
				}
			}
		}
	}
	small(t, 2, look)
	chances(t, func(r *rand.Rand, d *pair) { look(d) })
}

// 4.8

func TestAdvanceInTwo(t *testing.T) {
	chances(t, func(r *rand.Rand, d *pair) {
		a, b := r.Intn(20), r.Intn(20)
		whole, parts := d.x.Clone(), d.x.Clone()
		all, e := whole.Advance(a + b)
		if e != api.OK {
			return
		}
		one, e1 := parts.Advance(a)
		two, e2 := parts.Advance(b)
		if e1 != api.OK || e2 != api.OK || !slices.Equal(all, slices.Concat(one, two)) {
			t.Errorf("Advance(%d), Advance(%d): %v, %v; in one: %v", a, b, one, two, all)
		}
		wantSame(t, "in two", parts, stand(whole))
	})
}

// 4.9

// wantLimitKept asks of a token that lives whether time alone cancels it at its limit, and not ahead of it.
func wantLimitKept(t *testing.T, x *token.Tree, name string) {
	t.Helper()
	at, ok, _ := x.Limit(name)
	rest := x.Clone()
	if !ok {
		rest.Advance(api.MaxTick - rest.Now())
		wantFail(t, rest, name, nil)
		return
	}
	if at <= x.Now() {
		t.Errorf("%s lives at %d, though its limit is %d", name, x.Now(), at)
		return
	}
	rest.Advance(at - 1 - rest.Now())
	wantFail(t, rest, name, nil)
	rest.Advance(1)
	if done, e := rest.Done(name); !done || e != api.OK {
		t.Errorf("%s lives at its limit, %d", name, at)
	}
}

func TestNoneIsCancelledAheadOfItsLimit(t *testing.T) {
	look := func(d *pair) {
		for _, name := range d.x.Names() {
			if done, _ := d.x.Done(name); !done {
				wantLimitKept(t, d.x, name)
			}
		}
	}
	small(t, 2, look)
	chances(t, func(r *rand.Rand, d *pair) { look(d) })
}

// P1

// A token with this many ways up to the first one would never be told its limit by going all of them.
func TestManyWaysUp(t *testing.T) {
	x := token.New()
	l := names(token.MaxTokens)
	for i, name := range l {
		if done, e := x.Make(name, l[max(i-token.MaxParents, 0):i]); done || e != api.OK {
			t.Fatalf("Make of %s: %v, %v", name, done, e)
		}
	}
	last := l[token.MaxTokens-1]
	wantUntil(t, x, "t0", 9, "")
	wantLimit(t, x, last, 9)
	wantCancel(t, x.Clone(), "t1", nil, strings.Join(l[1:], " "))
	wantAdvance(t, x, 9, strings.Join(l, " "))
	wantFail(t, x, last, late("t0"))
}

func TestOneBelowAnother(t *testing.T) {
	x := token.New()
	l := names(token.MaxTokens)
	for i, name := range l {
		grow(t, x, strings.Join(append([]string{name}, l[max(i-1, 0):i]...), " "))
	}
	for _, i := range []int{255, 200, 192, 191, 128, 127, 64, 63, 1} {
		y := x.Clone()
		wantUntil(t, y, l[i], i, "")
		wantLimit(t, y, l[255], i)
		wantLimit(t, y, l[i-1], -1)
		wantCancel(t, y, l[i], nil, strings.Join(l[i:], " "))
	}
}

func TestAnyArguments(t *testing.T) {
	r := rand.New(rand.NewSource(44))
	texts := []string{"", "a", "b", "a\xff", "\x00", "A", strings.Repeat("a", 25), strings.Repeat("b", api.MaxText+1)}
	numbers := []int{0, 1, -1, api.MaxTick, api.MaxTick + 1, math.MaxInt, math.MinInt, math.MaxInt - 1}
	lists := [][]string{nil, {}, {"a"}, {"b", "a"}, {""}, texts, make([]string, token.MaxParents+1), make([]string, api.MaxItems), make([]string, api.MaxItems+1)}
	causes := []api.Fail{nil, {}, {{}}, {raise("x")}, {{Kind: math.MinInt, N: math.MaxInt}}, {{Kind: math.MaxInt, N: math.MinInt}}, chain(api.MaxCracks), chain(api.MaxCracks + 1), make(api.Fail, api.MaxItems+1)}
	x := token.New()
	for range 4000 {
		name := texts[r.Intn(len(texts))]
		number, list, cause := numbers[r.Intn(len(numbers))], lists[r.Intn(len(lists))], causes[r.Intn(len(causes))]
		if r.Intn(50) == 0 {
			x = token.New()
		}
		x.Make(name, list)
		x.Cancel(name, cause)
		x.Until(name, number)
		x.Advance(number)
		x.Done(name)
		x.Fail(name)
		x.Limit(name)
		x.First(list)
		if x.Now() < 0 || x.Now() > api.MaxTick || len(x.Order()) > len(x.Names()) || len(x.Names()) > 2 {
			t.Fatalf("a tree that may not be: %s", stand(x))
		}
	}
}
