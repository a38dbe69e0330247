package wait_test

import (
	"fmt"
	"iter"
	"math"
	"math/rand/v2"
	"slices"
	"strings"
	"testing"

	"onceweb/api"
	"onceweb/wait"
)

// rooming is what a room, and what it is held against, can do.
type rooming interface {
	Join(task int, key, token string, kind int) api.Errno
	Leave(task int) (api.Waiter, api.Errno)
	Wake(key string) []api.Waiter
	First(key string, n int) ([]api.Waiter, api.Errno)
	Cancel(token string) []api.Waiter
	Find(task int) (api.Waiter, int, api.Errno)
	Queue(key string) []api.Waiter
	Keys() []string
	Each() iter.Seq2[string, []api.Waiter]
	Len() int
}

// bench is a room as one list of all who wait, in the order in which they came: all that is asked of it is read out of this, by the chapter's words.
type bench struct {
	all []api.Waiter
}

// split takes those out of the list that go, and tells them; n of them at most.
func (b *bench) split(n int, goes func(w api.Waiter) bool) []api.Waiter {
	var gone, stay []api.Waiter
	for _, w := range b.all {
		if len(gone) < n && goes(w) {
			gone = append(gone, w)
		} else {
			stay = append(stay, w)
		}
	}
	b.all = stay
	return gone
}

func (b *bench) Join(task int, key, token string, kind int) api.Errno {
	switch {
	case task < 0 || task >= api.MaxTasks:
		return api.ErrRange
	case len(key) > api.MaxWord:
		return api.ErrLong
	case token != "" && !nameForm.MatchString(token):
		return api.ErrForm
	case kind < 0 || kind > 7:
		return api.ErrRange
	case slices.ContainsFunc(b.all, func(w api.Waiter) bool { return w.Task == task }):
		return api.ErrTwice
	case len(b.all) >= api.MaxTasks:
		return api.ErrLong
	}
	b.all = append(b.all, api.Waiter{Task: task, Kind: kind, Key: key, Token: token})
	return api.OK
}

func (b *bench) Leave(task int) (api.Waiter, api.Errno) {
	w, _, e := b.Find(task)
	b.split(1, func(w api.Waiter) bool { return w.Task == task })
	return w, e
}

func (b *bench) Wake(key string) []api.Waiter {
	return b.split(math.MaxInt, func(w api.Waiter) bool { return w.Key == key })
}

func (b *bench) First(key string, n int) ([]api.Waiter, api.Errno) {
	if n < 0 {
		return nil, api.ErrRange
	}
	return b.split(n, func(w api.Waiter) bool { return w.Key == key }), api.OK
}

func (b *bench) Cancel(token string) []api.Waiter {
	return b.split(math.MaxInt, func(w api.Waiter) bool { return w.Token != "" && w.Token == token })
}

func (b *bench) Find(task int) (api.Waiter, int, api.Errno) {
	if task < 0 || task >= api.MaxTasks {
		return api.Waiter{}, 0, api.ErrRange
	}
	for _, w := range b.all {
		if w.Task == task {
			return w, slices.Index(b.Queue(w.Key), w), api.OK
		}
	}
	return api.Waiter{}, 0, api.ErrNone
}

func (b *bench) Queue(key string) []api.Waiter {
	return slices.DeleteFunc(slices.Clone(b.all), func(w api.Waiter) bool { return w.Key != key })
}

func (b *bench) Keys() []string {
	var keys []string
	for _, w := range b.all {
		if !slices.Contains(keys, w.Key) {
			keys = append(keys, w.Key)
		}
	}
	slices.SortFunc(keys, func(a, b string) int { return slices.Compare([]byte(a), []byte(b)) })
	return keys
}

func (b *bench) Each() iter.Seq2[string, []api.Waiter] {
	was := bench{slices.Clone(b.all)}
	return func(yield func(string, []api.Waiter) bool) {
		for _, key := range was.Keys() {
			if !yield(key, was.Queue(key)) {
				return
			}
		}
	}
}

func (b *bench) Len() int { return len(b.all) }

// stateOf is all that a room tells of itself.
func stateOf(r rooming) string {
	var s strings.Builder
	fmt.Fprintf(&s, "%d %q;", r.Len(), r.Keys())
	for _, key := range r.Keys() {
		fmt.Fprintf(&s, " %q: %s;", key, listText(r.Queue(key)))
	}
	for key, queue := range r.Each() {
		fmt.Fprintf(&s, " each %q: %s;", key, listText(queue))
	}
	for task := range api.MaxTasks {
		if found := foundText(r.Find(task)); found != "error 4" {
			fmt.Fprintf(&s, " %d: %s;", task, found)
		}
	}
	return s.String()
}

// call is one that may change a room.
type call struct {
	word       string // join, leave, wake, first, cancel
	n          int    // the task, or how many
	key, token string
	kind       int
}

func (c call) of(r rooming) string {
	switch c.word {
	case "join":
		return okText(r.Join(c.n, c.key, c.token, c.kind))
	case "leave":
		return leftText(r.Leave(c.n))
	case "wake":
		return listText(r.Wake(c.key))
	case "first":
		return firstText(r.First(c.key, c.n))
	case "cancel":
		return listText(r.Cancel(c.token))
	}
	panic("no call: " + c.word)
}

// wantSame makes one call of both, and holds the answers, and the states behind it, against each other.
func wantSame(t *testing.T, r *wait.Room, b *bench, c call) {
	t.Helper()
	ahead := listText(b.all)
	got, wanted := c.of(r), c.of(b)
	if got != wanted {
		t.Fatalf("%s: %+v: %s, want %s", ahead, c, got, wanted)
	}
	if got, wanted := stateOf(r), stateOf(b); got != wanted {
		t.Fatalf("%s: behind %+v:\n%s, want\n%s", ahead, c, got, wanted)
	}
}

// fewCalls are all calls of few tasks, keys and tokens.
func fewCalls() []call {
	var l []call
	for task := range 3 {
		for _, key := range []string{"", "b"} {
			for _, token := range []string{"", "t"} {
				l = append(l, call{word: "join", n: task, key: key, token: token, kind: task})
			}
		}
		l = append(l, call{word: "leave", n: task})
	}
	for _, key := range []string{"", "b"} {
		l = append(l, call{word: "wake", key: key})
		for n := -1; n <= 2; n++ {
			l = append(l, call{word: "first", key: key, n: n})
		}
	}
	return append(l, call{word: "cancel"}, call{word: "cancel", token: "t"})
}

// everywhere goes on from a room and its judge by each call, so many calls deep.
func everywhere(t *testing.T, r *wait.Room, b *bench, deep int) {
	t.Helper()
	for _, c := range fewCalls() {
		nextRoom, nextBench := r.Clone(), &bench{slices.Clone(b.all)}
		wantSame(t, nextRoom, nextBench, c)
		if deep > 1 {
			everywhere(t, nextRoom, nextBench, deep-1)
		}
	}
	// Had a clone's calls reached the room, it would show here.
	if got, wanted := stateOf(r), stateOf(b); got != wanted {
		t.Fatalf("%s: behind its clones' calls:\n%s, want\n%s", listText(b.all), got, wanted)
	}
}

func TestEverywhere(t *testing.T) {
	everywhere(t, wait.New(), &bench{}, 3)
	for _, start := range [][]call{
		{{word: "join", n: 0, key: "b", token: "t"}, {word: "join", n: 1, key: "", token: "t"}},
		{{word: "join", n: 2, key: "", token: "t"}, {word: "join", n: 0, key: "b"}, {word: "join", n: 1, key: "b", token: "t"}},
		{{word: "join", n: 2, key: "b", token: "t"}, {word: "join", n: 1, key: "b", token: "t"}, {word: "join", n: 0, key: "b", token: "t"}},
	} {
		r, b := wait.New(), &bench{}
		for _, c := range start {
			wantSame(t, r, b, c)
		}
		everywhere(t, r, b, 3)
	}
}

// someCall is mostly one that changes something.
func someCall(r *rand.Rand, tasks int, keys, tokens []string) call {
	c := call{n: r.IntN(tasks), key: keys[r.IntN(len(keys))], token: tokens[r.IntN(len(tokens))], kind: r.IntN(8)}
	switch r.IntN(40) {
	case 0:
		c.n = oddNumbers[r.IntN(len(oddNumbers))]
	case 1:
		c.kind = oddNumbers[r.IntN(len(oddNumbers))]
	case 2:
		c.token = wrongTokens[r.IntN(len(wrongTokens))]
	case 3:
		c.key = strings.Repeat("k", api.MaxWord+1)
	}
	switch n := r.IntN(100); {
	case n < 70:
		c.word = "join"
	case n < 82:
		c.word = "leave"
	case n < 86:
		c.word = "wake"
	case n < 95:
		c.word, c.n = "first", r.IntN(5)-1
	default:
		c.word = "cancel"
	}
	return c
}

func TestByChance(t *testing.T) {
	r := rand.New(rand.NewPCG(13, 1))
	for range 300 {
		tasks := []int{3, 10, 40, api.MaxTasks}[r.IntN(4)]
		keys := []string{"", "a", "ab", "b", "\xff", "A", "é", "no name"}[:1+r.IntN(8)]
		tokens := []string{"", "t", "u", "t_1", "cell"}[:1+r.IntN(5)]
		room, b := wait.New(), &bench{}
		for range 100 {
			wantSame(t, room, b, someCall(r, tasks, keys, tokens))
			if r.IntN(20) == 0 {
				room = room.Clone()
			}
		}
	}
}
