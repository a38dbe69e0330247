package wait_test

import (
	"fmt"
	"testing"

	"onceweb/api"
	"onceweb/wait"
)

// R3: what is answered is new memory, spare room too; a clone shares nothing.

// scribble writes over all of l, its spare room too.
func scribble[T any](l []T, by T) {
	l = l[:cap(l)]
	for i := range l {
		l[i] = by
	}
}

var oddWaiter = api.Waiter{Task: 99, Kind: 99, Key: "odd", Token: "odd"}

var manyJoins = []string{"1 a t", "2 b -", "3 a u", "4 a t", "5 c t", "6 b u", "7 a -", "8 c -"}

// lists are the calls that answer waiters.
var lists = map[string]func(r *wait.Room) []api.Waiter{
	"Queue a":   func(r *wait.Room) []api.Waiter { return r.Queue("a") },
	"Wake a":    func(r *wait.Room) []api.Waiter { return r.Wake("a") },
	"Wake b":    func(r *wait.Room) []api.Waiter { return r.Wake("b") },
	"First a 1": func(r *wait.Room) []api.Waiter { l, _ := r.First("a", 1); return l },
	"First a 3": func(r *wait.Room) []api.Waiter { l, _ := r.First("a", 3); return l },
	"First a 9": func(r *wait.Room) []api.Waiter { l, _ := r.First("a", 9); return l },
	"Cancel t":  func(r *wait.Room) []api.Waiter { return r.Cancel("t") },
	"Cancel u":  func(r *wait.Room) []api.Waiter { return r.Cancel("u") },
}

func TestAnswersShareNothing(t *testing.T) {
	for word, of := range lists {
		r, x := roomOf(t, manyJoins...), roomOf(t, manyJoins...)
		scribble(of(r), oddWaiter)
		of(x)
		want(t, stateOf(r), stateOf(x), "the room, its answer scribbled over:", word)
		for second, next := range lists {
			r, x := roomOf(t, manyJoins...), roomOf(t, manyJoins...)
			scribble(of(r), oddWaiter)
			of(x)
			kept := next(r)
			told := listText(kept)
			want(t, told, listText(next(x)), second, "behind", word)
			scribble(of(r), oddWaiter)
			want(t, listText(kept), told, "two answers:", second, word)
		}
	}
}

// TestAnswersStay: what was answered is not changed by what comes later.
func TestAnswersStay(t *testing.T) {
	for word, of := range lists {
		r := roomOf(t, manyJoins...)
		told := of(r)
		was, keys := listText(told), r.Keys()
		wasKeys := fmt.Sprint(keys)
		for task := range api.MaxTasks {
			r.Leave(task)
			r.Join(task, "a", "v", 3)
			r.First("a", task%2)
		}
		r.Wake("a")
		want(t, listText(told), was, "the answer of", word)
		want(t, fmt.Sprint(keys), wasKeys, "Keys behind", word)
	}
}

func TestKeysAreNew(t *testing.T) {
	r := roomOf(t, manyJoins...)
	was, first, second := stateOf(r), r.Keys(), r.Keys()
	scribble(first, "odd")
	want(t, fmt.Sprint(second, r.Keys()), "[a b c] [a b c]", "Keys")
	want(t, stateOf(r), was, "the room")
}

func TestEachIsNew(t *testing.T) {
	r := roomOf(t, manyJoins...)
	was, each := stateOf(r), r.Each()
	for range 3 {
		var all [][]api.Waiter
		for _, queue := range each {
			all = append(all, queue)
		}
		want(t, tasksOf(all[0])+tasksOf(all[1])+tasksOf(all[2]), "[1 3 4 7][2 6][5 8]", "a walk")
		scribble(all[1], oddWaiter)
		want(t, tasksOf(all[0])+tasksOf(all[2]), "[1 3 4 7][5 8]", "a walk, one queue scribbled over")
		scribble(all[0], oddWaiter)
		scribble(all[2], oddWaiter)
	}
	for key, queue := range each {
		scribble(queue, oddWaiter)
		if len(queue) != len(r.Queue(key)) {
			t.Errorf("%s: %d", key, len(queue))
		}
	}
	want(t, stateOf(r), was, "the room")
	want(t, walk(each, 9), "a[1 3 4 7] b[2 6] c[5 8]", "the last walk")
}

func TestClonesShareNothing(t *testing.T) {
	changes := map[string]func(r *wait.Room){
		"Join":   func(r *wait.Room) { r.Join(10, "a", "t", 1); r.Join(11, "d", "", 2) },
		"Leave":  func(r *wait.Room) { r.Leave(1); r.Leave(2) },
		"Wake":   func(r *wait.Room) { r.Wake("a") },
		"First":  func(r *wait.Room) { r.First("a", 2); r.First("b", 1) },
		"Cancel": func(r *wait.Room) { r.Cancel("t") },
	}
	for word, change := range changes {
		for second, next := range changes {
			r, plain := roomOf(t, manyJoins...), roomOf(t, manyJoins...)
			was, x := stateOf(r), r.Clone()
			want(t, stateOf(x), was, "a clone")
			change(r)
			want(t, stateOf(x), was, "a clone, behind a change of its room:", word)
			behind := stateOf(r)
			next(x)
			want(t, stateOf(r), behind, "a room, behind a change of its clone:", word, second)
			next(plain)
			want(t, stateOf(x), stateOf(plain), "a clone goes on as its room would:", second)
		}
	}
	// Both grow by as much, so that one's spare room would be seen in the other.
	r := roomOf(t, "1 a -", "2 a -", "3 a -")
	x := r.Clone()
	for task := 4; task < 60; task++ {
		r.Join(task, "a", "", 1)
		x.Join(task+60, "a", "", 2)
		l, m := r.Queue("a"), x.Queue("a")
		if l[len(l)-1].Task != task || m[len(m)-1].Task != task+60 {
			t.Fatalf("%s and %s", tasksOf(l), tasksOf(m))
		}
	}
}
