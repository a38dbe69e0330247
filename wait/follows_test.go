package wait_test

import (
	"fmt"
	"iter"
	"math/rand/v2"
	"slices"
	"strings"
	"testing"

	"onceweb/api"
	"onceweb/wait"
)

// someRoom is a room behind many calls.
func someRoom(r *rand.Rand) *wait.Room {
	room := wait.New()
	for range r.IntN(150) {
		someCall(r, 1+r.IntN(api.MaxTasks), []string{"", "a", "ab", "b", "\xff"}, []string{"", "t", "u"}).of(room)
	}
	return room
}

// someKeys are keys that are waited for in some rooms, and one that is in none.
var someKeys = []string{"", "a", "ab", "b", "\xff", "x"}

// 13.4: First of 1, time after time, tells what Wake would have told; so does First of other numbers, and Queue.
func TestFirstIsWakeByParts(t *testing.T) {
	r := rand.New(rand.NewPCG(13, 4))
	for range 400 {
		room := someRoom(r)
		for _, key := range someKeys {
			queue := listText(room.Queue(key))
			one, some, all := room.Clone(), room.Clone(), room.Clone()
			var byOne, bySome []api.Waiter
			for range len(room.Queue(key)) {
				l, _ := one.First(key, 1)
				byOne = append(byOne, l...)
				l, _ = some.First(key, 1+r.IntN(3))
				bySome = append(bySome, l...)
			}
			want(t, listText(all.Wake(key)), queue, "Wake", key)
			want(t, listText(byOne), queue, "First of 1 of", key)
			want(t, listText(bySome), queue, "First of some of", key)
			want(t, stateOf(one), stateOf(all), "the room behind First of 1 of", key)
			want(t, stateOf(some), stateOf(all), "the room behind First of some of", key)
		}
	}
}

// 13.4: of two of one key, the one who came first is told first; whoever is told waits no more.
func TestFirstComeFirstWoken(t *testing.T) {
	r := rand.New(rand.NewPCG(13, 5))
	for range 200 {
		room, came := wait.New(), map[int]int{}
		for i := range 200 {
			task := r.IntN(40)
			switch r.IntN(6) {
			case 0:
				room.Leave(task)
			case 1:
				l, _ := room.First(someKeys[r.IntN(5)], r.IntN(3))
				wantInOrder(t, room, came, l)
			case 2:
				wantInOrder(t, room, came, room.Cancel([]string{"", "t", "u", "v"}[r.IntN(4)]))
			default:
				if room.Join(task, someKeys[r.IntN(5)], []string{"", "t", "u", "v"}[r.IntN(4)], 0) == api.OK {
					came[task] = i
				}
			}
			for _, queue := range room.Each() {
				wantRising(t, came, queue)
			}
		}
		for _, key := range room.Keys() {
			wantInOrder(t, room, came, room.Wake(key))
		}
	}
}

func wantRising(t *testing.T, came map[int]int, l []api.Waiter) {
	t.Helper()
	if !slices.IsSortedFunc(l, func(a, b api.Waiter) int { return came[a.Task] - came[b.Task] }) {
		t.Fatalf("not as they came: %s", listText(l))
	}
}

func wantInOrder(t *testing.T, r *wait.Room, came map[int]int, told []api.Waiter) {
	t.Helper()
	wantRising(t, came, told)
	for _, w := range told {
		want(t, foundText(r.Find(w.Task)), "error 4", "Find of one who was told")
	}
}

// 13.5: all queues together have each waiter once, and Len is their sum.
func TestEachWaiterOnce(t *testing.T) {
	r := rand.New(rand.NewPCG(13, 6))
	for range 300 {
		room := someRoom(r)
		var tasks []int
		for key, queue := range room.Each() {
			if len(queue) == 0 {
				t.Fatalf("%q: an empty queue", key)
			}
			for place, w := range queue {
				tasks = append(tasks, w.Task)
				found, at, e := room.Find(w.Task)
				if w.Key != key || found != w || at != place || e != api.OK {
					t.Fatalf("%q at %d: %s; Find: %s", key, place, waiterText(w), foundText(found, at, e))
				}
			}
		}
		slices.Sort(tasks)
		if len(slices.Compact(slices.Clone(tasks))) != len(tasks) || len(tasks) != room.Len() {
			t.Fatalf("%v of %d", tasks, room.Len())
		}
		n := 0
		for task := range api.MaxTasks {
			if _, _, e := room.Find(task); e == api.OK {
				n++
			}
		}
		want(t, fmt.Sprint(n), fmt.Sprint(room.Len()), "who is found")
	}
}

// othersOf is the queues of all keys but one.
func othersOf(r *wait.Room, but string) string {
	var s strings.Builder
	for key, queue := range r.Each() {
		if key != but {
			fmt.Fprintf(&s, "%q: %s ", key, listText(queue))
		}
	}
	return s.String()
}

// 13.5: what one key's calls do changes no other key's queue.
func TestKeysApart(t *testing.T) {
	r := rand.New(rand.NewPCG(13, 7))
	for range 300 {
		room := someRoom(r)
		for _, key := range someKeys {
			others := othersOf(room, key)
			for _, w := range room.Queue(key) {
				x := room.Clone()
				x.Leave(w.Task)
				want(t, othersOf(x, key), others, "Leave of", key)
				x.Join(w.Task, key, w.Token, w.Kind)
				want(t, othersOf(x, key), others, "Join of", key)
				want(t, fmt.Sprint(x.Len()), fmt.Sprint(room.Len()), "Len")
			}
			x, y := room.Clone(), room.Clone()
			x.Wake(key)
			want(t, othersOf(x, key), others, "Wake of", key)
			y.First(key, r.IntN(5))
			want(t, othersOf(y, key), others, "First of", key)
		}
	}
}

// walk is what an iterator tells, up to so many keys.
func walk(each iter.Seq2[string, []api.Waiter], most int) string {
	var words []string
	for key, queue := range each {
		if len(words) == most {
			break
		}
		words = append(words, key+tasksOf(queue))
	}
	return strings.Join(words, " ")
}

func TestEachLeft(t *testing.T) {
	each := roomOf(t, "1 c -", "2 a -", "3 b -", "4 a t").Each()
	for _, most := range []int{0, 1, 2, 3, 4, 1, 4, 0, 2} {
		wanted := strings.Join([]string{"a[2 4]", "b[3]", "c[1]"}[:min(most, 3)], " ")
		want(t, walk(each, most), wanted, "Each up to", most)
	}
	calls := 0
	each(func(string, []api.Waiter) bool { calls++; return false })
	want(t, fmt.Sprint(calls), "1", "how often it goes on when it is left")
	for range each {
		want(t, walk(each, 9), "a[2 4] b[3] c[1]", "a walk within a walk")
	}
}

// TestEachOfThen: Each is of the room as it was when it was called, whatever comes behind it.
func TestEachOfThen(t *testing.T) {
	changes := map[string]func(r *wait.Room){
		"Join":   func(r *wait.Room) { r.Join(8, "a", "", 0); r.Join(9, "aa", "", 0) },
		"Leave":  func(r *wait.Room) { r.Leave(2); r.Leave(3) },
		"Wake":   func(r *wait.Room) { r.Wake("b"); r.Wake("a") },
		"First":  func(r *wait.Room) { r.First("a", 1); r.First("c", 1) },
		"Cancel": func(r *wait.Room) { r.Cancel("t"); r.Cancel("u") },
		"anew": func(r *wait.Room) {
			for task := range 5 {
				r.Leave(task)
				r.Join(task, "b", "u", 5)
			}
		},
	}
	const whole = "a[2 4] b[3] c[1]"
	for word, change := range changes {
		r := roomOf(t, "1 c -", "2 a -", "3 b u", "4 a t")
		each := r.Each()
		change(r)
		want(t, walk(each, 9), whole, "Each ahead of", word)
		want(t, walk(each, 9), whole, "Each ahead of, again", word)

		r = roomOf(t, "1 c -", "2 a -", "3 b u", "4 a t")
		var told []string
		for key, queue := range r.Each() {
			change(r)
			told = append(told, key+tasksOf(queue))
		}
		want(t, strings.Join(told, " "), whole, "Each, within it", word)
		if got := queuesOf(r); got == whole {
			t.Errorf("%s: the room is as it was", word)
		}
	}
	r := wait.New()
	each := r.Each()
	r.Join(1, "a", "", 0)
	want(t, walk(each, 9), "", "Each of an empty room")
	want(t, walk(r.Each(), 9), "a[1]", "Each called anew")
}
