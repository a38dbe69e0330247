package wait_test

import (
	"fmt"
	"math"
	"regexp"
	"strconv"
	"strings"
	"testing"

	"onceweb/api"
	"onceweb/wait"
)

var (
	nameForm   = regexp.MustCompile(`\A[a-z][a-z0-9_]{0,23}\z`)
	oddNumbers = []int{-1, api.MaxTasks, math.MinInt, math.MaxInt, 1 << 32, -api.MaxTasks}

	wrongTokens = []string{strings.Repeat("a", api.MaxName+1), strings.Repeat("a", 1<<17), "A", "0", "_", "_a", "9a", " ", "aB", "a b", "a.", "a\n", "é", "aé", "a\x00", "\x00", "\xff", "a\xff"}
)

func okText(e api.Errno) string {
	if e == api.OK {
		return "ok"
	}
	return e.Error()
}

// waiterText is a waiter, with all of its fields; a key that is long is told by its length.
func waiterText(w api.Waiter) string {
	key := strconv.Quote(w.Key)
	if len(w.Key) > 50 {
		key = fmt.Sprintf("%q..%d", w.Key[:4], len(w.Key))
	}
	return fmt.Sprintf("%d/%d/%s/%s", w.Task, w.Kind, key, w.Token)
}

func listText(l []api.Waiter) string {
	var words []string
	for _, w := range l {
		words = append(words, waiterText(w))
	}
	return "[" + strings.Join(words, " ") + "]"
}

func leftText(w api.Waiter, e api.Errno) string {
	switch {
	case e == api.OK:
		return waiterText(w)
	case w == api.Waiter{}:
		return e.Error()
	}
	return fmt.Sprint("odd: ", waiterText(w), e)
}

func firstText(l []api.Waiter, e api.Errno) string {
	switch {
	case e == api.OK:
		return listText(l)
	case len(l) == 0:
		return e.Error()
	}
	return fmt.Sprint("odd: ", listText(l), e)
}

func foundText(w api.Waiter, place int, e api.Errno) string {
	switch {
	case e == api.OK:
		return fmt.Sprint(waiterText(w), " at ", place)
	case w == api.Waiter{} && place == 0:
		return e.Error()
	}
	return fmt.Sprint("odd: ", waiterText(w), place, e)
}

// tasksOf is the tasks of waiters, in order.
func tasksOf(l []api.Waiter) string {
	tasks := []int{}
	for _, w := range l {
		tasks = append(tasks, w.Task)
	}
	return fmt.Sprint(tasks)
}

func want(t *testing.T, got, wanted string, what ...any) {
	t.Helper()
	if got != wanted {
		t.Errorf("%s: %s, want %s", strings.TrimSpace(fmt.Sprintln(what...)), got, wanted)
	}
}

// queuesOf is the tasks that wait, key by key, as Each tells them.
func queuesOf(r rooming) string {
	var words []string
	for key, queue := range r.Each() {
		words = append(words, key+tasksOf(queue))
	}
	return strings.Join(words, " ")
}

// roomOf is a room that was joined so: TASK KEY TOKEN, one after another; - for a token is none.
func roomOf(t *testing.T, joins ...string) *wait.Room {
	t.Helper()
	r := wait.New()
	do(t, r, joins...)
	return r
}

func do(t *testing.T, r *wait.Room, joins ...string) {
	t.Helper()
	for _, line := range joins {
		var task int
		var key, token string
		if _, e := fmt.Sscan(line, &task, &key, &token); e != nil {
			t.Fatalf("%s: %v", line, e)
		}
		if token == "-" {
			token = ""
		}
		if e := r.Join(task, key, token, task%8); e != api.OK {
			t.Fatalf("Join %s: %v", line, e)
		}
	}
}

func TestExample(t *testing.T) {
	r := wait.New()
	want(t, okText(r.Join(1, "a", "", 0)), "ok", "Join 1")
	want(t, okText(r.Join(2, "b", "t", 0)), "ok", "Join 2")
	want(t, okText(r.Join(3, "a", "t", 1)), "ok", "Join 3")
	want(t, listText(r.Queue("a")), `[1/0/"a"/ 3/1/"a"/t]`, "Queue")
	want(t, fmt.Sprint(r.Keys()), "[a b]", "Keys")
	want(t, listText(r.Cancel("t")), `[2/0/"b"/t 3/1/"a"/t]`, "Cancel")
	want(t, fmt.Sprint(r.Len()), "1", "Len")
	want(t, okText(r.Join(1, "c", "", 0)), "error 6", "Join 1 again")
	want(t, leftText(r.Leave(2)), "error 4", "Leave 2")
	want(t, queuesOf(r), "a[1]", "Each")
}

func TestNewIsEmpty(t *testing.T) {
	r := wait.New()
	want(t, stateOf(r), "0 [];", "a new room")
	want(t, listText(r.Queue("")), "[]", "Queue")
	want(t, listText(r.Wake("")), "[]", "Wake")
	want(t, firstText(r.First("", 1)), "[]", "First")
	want(t, listText(r.Cancel("t")), "[]", "Cancel")
	want(t, leftText(r.Leave(0)), "error 4", "Leave")
	want(t, foundText(r.Find(0)), "error 4", "Find")
	want(t, stateOf(r), "0 [];", "it behind these")
	want(t, stateOf(wait.New()), stateOf(r.Clone()), "a clone of it")
}

// TestJoinEdges: each argument at its edges, the others right.
func TestJoinEdges(t *testing.T) {
	long := strings.Repeat("k", api.MaxWord)
	rows := []struct {
		task       int
		key, token string
		kind       int
		want       api.Errno
	}{
		{0, "a", "", 0, api.OK}, {1, "a", "", 0, api.OK}, {api.MaxTasks - 1, "a", "", 0, api.OK}, {-1, "a", "", 0, api.ErrRange}, {api.MaxTasks, "a", "", 0, api.ErrRange}, {math.MinInt, "a", "", 0, api.ErrRange}, {math.MaxInt, "a", "", 0, api.ErrRange},
		{5, "a", "", 1, api.OK}, {5, "a", "", 7, api.OK}, {5, "a", "", -1, api.ErrRange}, {5, "a", "", 8, api.ErrRange}, {5, "a", "", math.MinInt, api.ErrRange}, {5, "a", "", math.MaxInt, api.ErrRange},
		{5, "", "", 0, api.OK}, {5, "no name!", "", 0, api.OK}, {5, "\x00\xff\n\"", "", 0, api.OK}, {5, long[1:], "", 0, api.OK}, {5, long, "", 0, api.OK}, {5, long[1:] + "\xff", "", 0, api.OK}, {5, strings.Repeat("é", api.MaxWord/2), "", 0, api.OK},
		{5, long + "k", "", 0, api.ErrLong}, {5, strings.Repeat("é", api.MaxWord/2) + "e", "", 0, api.ErrLong}, {5, strings.Repeat("k", 1<<20), "", 0, api.ErrLong},
		{5, "a", "t", 0, api.OK}, {5, "a", "a", 0, api.OK}, {5, "a", "z", 0, api.OK}, {5, "a", "a09_z", 0, api.OK}, {5, "a", "a_", 0, api.OK}, {5, "a", "cell", 0, api.OK}, {5, "a", strings.Repeat("z", api.MaxName), 0, api.OK}, {5, "a", strings.Repeat("z", api.MaxName-1), 0, api.OK},
	}
	for _, token := range wrongTokens {
		rows = append(rows, struct {
			task       int
			key, token string
			kind       int
			want       api.Errno
		}{5, "a", token, 0, api.ErrForm})
	}
	for _, row := range rows {
		r := wait.New()
		w := api.Waiter{Task: row.task, Kind: row.kind, Key: row.key, Token: row.token}
		want(t, okText(r.Join(row.task, row.key, row.token, row.kind)), okText(row.want), "Join", waiterText(w))
		if row.want != api.OK {
			want(t, stateOf(r), "0 [];", "behind Join", waiterText(w))
			continue
		}
		want(t, foundText(r.Find(row.task)), waiterText(w)+" at 0", "Find", waiterText(w))
		if l := r.Queue(row.key); len(l) != 1 || l[0] != w || r.Len() != 1 {
			t.Errorf("Queue behind Join %s: %s, %d", waiterText(w), listText(l), r.Len())
		}
	}
}

// TestTokenBytes: all bytes, as a token's only one, its first, one in its midst and its last.
func TestTokenBytes(t *testing.T) {
	for c := range 256 {
		b := string([]byte{byte(c)})
		small := strings.Contains("abcdefghijklmnopqrstuvwxyz", b)
		later := small || strings.Contains("0123456789_", b)
		for token, right := range map[string]bool{b: small, b + "a": small, "a" + b + "a": later, "a" + b: later, strings.Repeat("a", api.MaxName-1) + b: later, strings.Repeat("a", api.MaxName) + b: false, b + strings.Repeat("a", api.MaxName): false} {
			wanted := "error 2"
			if right {
				wanted = "ok"
			}
			want(t, okText(wait.New().Join(1, "k", token, 0)), wanted, "Join with", strconv.Quote(token))
		}
	}
}

// TestFirstWrongFirst: of all that is wrong the first thing is told, and nothing is changed.
func TestFirstWrongFirst(t *testing.T) {
	few := roomOf(t, "4 a t", "5 b -")
	full := wait.New()
	for task := range api.MaxTasks {
		full.Join(task, strconv.Itoa(task%3), "t", 0)
	}
	for _, r := range []*wait.Room{few, full} {
		was := stateOf(r)
		for _, task := range []int{4, 5, 6, -1, api.MaxTasks} {
			for _, key := range []string{"a", "c", strings.Repeat("k", api.MaxWord+1)} {
				for _, token := range []string{"", "t", "T", strings.Repeat("t", api.MaxName+1)} {
					for _, kind := range []int{0, 7, -1, 8} {
						wanted := api.ErrTwice
						switch {
						case task < 0 || task > 6:
							wanted = api.ErrRange
						case len(key) > 1:
							wanted = api.ErrLong
						case len(token) > 1 || token == "T":
							wanted = api.ErrForm
						case kind < 0 || kind > 7:
							wanted = api.ErrRange
						case task == 6 && r == few:
							continue
						}
						want(t, okText(r.Join(task, key, token, kind)), okText(wanted), "Join", task, len(key), token, kind)
					}
				}
			}
		}
		want(t, stateOf(r), was, "the room behind what was refused")
	}
}

func TestTwice(t *testing.T) {
	r := roomOf(t, "1 a t", "2 a -")
	was := stateOf(r)
	for _, key := range []string{"a", "b", ""} {
		for _, token := range []string{"", "t", "u"} {
			want(t, okText(r.Join(1, key, token, 1)), "error 6", "Join 1", key, token)
			want(t, okText(r.Join(2, key, token, 3)), "error 6", "Join 2", key, token)
		}
	}
	want(t, stateOf(r), was, "the room")
	want(t, tasksOf(r.Cancel("t"))+tasksOf(r.Wake("a")), "[1][2]", "who waits")
}

// TestMany: as many as there are tasks, for one key and for a key each.
func TestMany(t *testing.T) {
	for _, keys := range []int{1, 2, 5, api.MaxTasks} {
		r := wait.New()
		for i := range api.MaxTasks {
			task := i * 37 % api.MaxTasks
			want(t, okText(r.Join(task, fmt.Sprint(i%keys), "t", i%8)), "ok", "Join", task)
			want(t, fmt.Sprint(r.Len(), len(r.Keys())), fmt.Sprint(i+1, " ", min(i+1, keys)), "Len and Keys")
		}
		for task := range api.MaxTasks {
			want(t, okText(r.Join(task, "x", "", 0)), "error 6", "Join", task, "of all")
		}
		for i := range api.MaxTasks {
			task := i * 37 % api.MaxTasks
			wanted := fmt.Sprintf(`%d/%d/"%d"/t at %d`, task, i%8, i%keys, i/keys)
			want(t, foundText(r.Find(task)), wanted, "Find", task)
		}
		l := r.Cancel("t")
		for i, w := range l {
			want(t, fmt.Sprint(w.Task), fmt.Sprint(i*37%api.MaxTasks), "Cancel at", i)
		}
		want(t, fmt.Sprint(len(l), r.Len()), "128 0", "how many were cancelled, and are left")
	}
}

func TestRangesOfTasks(t *testing.T) {
	r := roomOf(t, "0 a -", "127 a -")
	was := stateOf(r)
	for _, task := range oddNumbers {
		want(t, leftText(r.Leave(task)), "error 1", "Leave", task)
		want(t, foundText(r.Find(task)), "error 1", "Find", task)
	}
	for _, task := range []int{1, 126} {
		want(t, leftText(r.Leave(task)), "error 4", "Leave", task)
		want(t, foundText(r.Find(task)), "error 4", "Find", task)
	}
	want(t, stateOf(r), was, "the room")
	want(t, foundText(r.Find(0)), `0/0/"a"/ at 0`, "Find 0")
	want(t, foundText(r.Find(127)), `127/7/"a"/ at 1`, "Find 127")
	want(t, leftText(r.Leave(0)), `0/0/"a"/`, "Leave 0")
	want(t, leftText(r.Leave(127)), `127/7/"a"/`, "Leave 127")
}

func TestLeave(t *testing.T) {
	rows := []struct {
		leave []int
		want  string // behind it, and behind joining a again in that order
		again string
	}{
		{[]int{1}, "a[2 3 4] b[5]", "a[2 3 4 1] b[5]"},
		{[]int{2}, "a[1 3 4] b[5]", "a[1 3 4 2] b[5]"},
		{[]int{3}, "a[1 2 4] b[5]", "a[1 2 4 3] b[5]"},
		{[]int{4}, "a[1 2 3] b[5]", "a[1 2 3 4] b[5]"},
		{[]int{5}, "a[1 2 3 4]", "a[1 2 3 4 5]"},
		{[]int{2, 3}, "a[1 4] b[5]", "a[1 4 2 3] b[5]"},
		{[]int{4, 1}, "a[2 3] b[5]", "a[2 3 4 1] b[5]"},
		{[]int{3, 2, 5}, "a[1 4]", "a[1 4 3 2 5]"},
		{[]int{4, 3, 2, 1}, "b[5]", "a[4 3 2 1] b[5]"},
		{[]int{1, 2, 3, 4, 5}, "", "a[1 2 3 4 5]"},
	}
	for _, row := range rows {
		r := roomOf(t, "1 a t", "2 a -", "5 b t", "3 a u", "4 a t")
		for _, task := range row.leave {
			was, _, _ := r.Find(task)
			want(t, leftText(r.Leave(task)), waiterText(was), "Leave", task, "of", row.leave)
			want(t, leftText(r.Leave(task)), "error 4", "Leave again", task, "of", row.leave)
			want(t, foundText(r.Find(task)), "error 4", "Find", task, "of", row.leave)
		}
		want(t, queuesOf(r), row.want, "behind leaving", row.leave)
		want(t, fmt.Sprint(r.Len()), fmt.Sprint(5-len(row.leave)), "Len behind leaving", row.leave)
		for _, task := range row.leave {
			want(t, okText(r.Join(task, "a", "", 0)), "ok", "Join again", task, "of", row.leave)
		}
		want(t, queuesOf(r), row.again, "behind joining again", row.leave)
	}
}

// TestGoneAndBack: whoever was told waits no more, by whatever call; and may join again, behind all others.
func TestGoneAndBack(t *testing.T) {
	rows := map[string]func(r *wait.Room){
		"Leave":  func(r *wait.Room) { r.Leave(1) },
		"Wake":   func(r *wait.Room) { r.Wake("a") },
		"First":  func(r *wait.Room) { r.First("a", 1) },
		"Cancel": func(r *wait.Room) { r.Cancel("t") },
	}
	for word, away := range rows {
		for _, key := range []string{"a", "b", "c"} {
			r := roomOf(t, "1 a t", "2 b -", "3 b u")
			away(r)
			want(t, queuesOf(r), "b[2 3]", "behind", word)
			want(t, leftText(r.Leave(1)), "error 4", "Leave behind", word)
			want(t, foundText(r.Find(1)), "error 4", "Find behind", word)
			want(t, tasksOf(r.Cancel("t"))+tasksOf(r.Wake("a")), "[][]", "who is told behind", word)
			want(t, okText(r.Join(1, key, "u", 6)), "ok", "Join again behind", word)
			place := map[string]int{"b": 2}[key]
			want(t, foundText(r.Find(1)), fmt.Sprintf("1/6/%q/u at %d", key, place), "Find behind joining again")
			want(t, tasksOf(r.Cancel("u")), "[3 1]", "Cancel behind joining again")
		}
	}
}

func TestWake(t *testing.T) {
	r := roomOf(t, "3 a t", "1 b t", "2 a -", "0 c -", "4 a u")
	want(t, listText(r.Wake("x"))+listText(r.Wake(""))+listText(r.Wake(strings.Repeat("a", api.MaxWord+1))), "[][][]", "Wake of what nobody waits for")
	want(t, queuesOf(r), "a[3 2 4] b[1] c[0]", "behind it")
	want(t, listText(r.Wake("a")), `[3/3/"a"/t 2/2/"a"/ 4/4/"a"/u]`, "Wake of many")
	want(t, queuesOf(r), "b[1] c[0]", "behind it")
	want(t, listText(r.Wake("a")), "[]", "Wake again")
	want(t, listText(r.Wake("b")), `[1/1/"b"/t]`, "Wake of one")
	want(t, stateOf(r), `1 ["c"]; "c": [0/0/"c"/]; each "c": [0/0/"c"/]; 0: 0/0/"c"/ at 0;`, "the room")
	want(t, okText(r.Join(2, "a", "", 0))+okText(r.Join(3, "a", "", 0)), "okok", "Join again")
	want(t, tasksOf(r.Wake("a")), "[2 3]", "Wake of those that joined again")
}

func TestFirst(t *testing.T) {
	rows := []struct {
		n          int
		told, left string
	}{
		{math.MinInt, "error 1", "a[3 2 4 1] b[5]"}, {-2, "error 1", "a[3 2 4 1] b[5]"}, {-1, "error 1", "a[3 2 4 1] b[5]"},
		{0, "[]", "a[3 2 4 1] b[5]"}, {1, `[3/3/"a"/t]`, "a[2 4 1] b[5]"}, {2, `[3/3/"a"/t 2/2/"a"/]`, "a[4 1] b[5]"}, {3, `[3/3/"a"/t 2/2/"a"/ 4/4/"a"/u]`, "a[1] b[5]"},
		{4, `[3/3/"a"/t 2/2/"a"/ 4/4/"a"/u 1/1/"a"/t]`, "b[5]"}, {5, `[3/3/"a"/t 2/2/"a"/ 4/4/"a"/u 1/1/"a"/t]`, "b[5]"}, {api.MaxItems + 1, `[3/3/"a"/t 2/2/"a"/ 4/4/"a"/u 1/1/"a"/t]`, "b[5]"}, {math.MaxInt, `[3/3/"a"/t 2/2/"a"/ 4/4/"a"/u 1/1/"a"/t]`, "b[5]"},
	}
	for _, row := range rows {
		r := roomOf(t, "3 a t", "2 a -", "5 b t", "4 a u", "1 a t")
		want(t, firstText(r.First("a", row.n)), row.told, "First a", row.n)
		want(t, queuesOf(r), row.left, "behind First a", row.n)
	}
	r := roomOf(t, "3 a t")
	was := stateOf(r)
	for _, key := range []string{"", "b", "aa", strings.Repeat("a", api.MaxWord+1)} {
		want(t, firstText(r.First(key, -1)), "error 1", "First of what nobody waits for, -1")
		for _, n := range []int{0, 1, math.MaxInt} {
			want(t, firstText(r.First(key, n)), "[]", "First of what nobody waits for", n)
		}
	}
	want(t, stateOf(r), was, "behind it")
}

func TestCancel(t *testing.T) {
	joins := []string{"3 z t", "2 a -", "5 a t", "4 m u", "1 a t", "0 z t", "6 a u"}
	rows := []struct{ token, told, left string }{
		{"", "[]", "a[2 5 1 6] m[4] z[3 0]"}, {"x", "[]", "a[2 5 1 6] m[4] z[3 0]"}, {"T", "[]", "a[2 5 1 6] m[4] z[3 0]"}, {"tt", "[]", "a[2 5 1 6] m[4] z[3 0]"}, {"a", "[]", "a[2 5 1 6] m[4] z[3 0]"}, {strings.Repeat("t", 100), "[]", "a[2 5 1 6] m[4] z[3 0]"},
		{"t", "[3 5 1 0]", "a[2 6] m[4]"}, {"u", "[4 6]", "a[2 5 1] z[3 0]"},
	}
	for _, row := range rows {
		r := roomOf(t, joins...)
		want(t, tasksOf(r.Cancel(row.token)), row.told, "Cancel", row.token)
		want(t, queuesOf(r), row.left, "behind Cancel", row.token)
		want(t, tasksOf(r.Cancel(row.token)), "[]", "Cancel again", row.token)
	}
	want(t, listText(roomOf(t, joins...).Cancel("t")), `[3/3/"z"/t 5/5/"a"/t 1/1/"a"/t 0/0/"z"/t]`, "Cancel t")

	// Whoever leaves and joins again has come anew, for the same key or another one.
	r := roomOf(t, joins...)
	r.Leave(5)
	r.Leave(3)
	do(t, r, "3 z t", "5 m t")
	want(t, tasksOf(r.Cancel("t")), "[1 0 3 5]", "Cancel behind joining again")
	do(t, r, "5 z t", "1 y t", "3 x t")
	r.Wake("z")
	do(t, r, "5 a t")
	want(t, tasksOf(r.Clone().Cancel("t")), "[1 3 5]", "Cancel of a clone")
	want(t, tasksOf(r.Cancel("t")), "[1 3 5]", "Cancel behind Wake and joining again")
	want(t, queuesOf(r), "a[2 6] m[4]", "the room")
}

// TestCancelIsSteady: of many keys, time after time, the same order.
func TestCancelIsSteady(t *testing.T) {
	r := wait.New()
	for i := range 60 {
		r.Join(i*7%60, fmt.Sprint(i*11%60), "t", 0)
	}
	for range 30 {
		for i, w := range r.Clone().Cancel("t") {
			want(t, fmt.Sprint(w.Task), fmt.Sprint(i*7%60), "Cancel at", i)
		}
	}
}

// placesOf is where each of the tasks 1 to 6 stands; - where it does not wait.
func placesOf(r *wait.Room) string {
	var words []string
	for task := 1; task <= 6; task++ {
		w, place, e := r.Find(task)
		if e != api.OK {
			words = append(words, "-")
			continue
		}
		words = append(words, fmt.Sprint(w.Key, place))
	}
	return strings.Join(words, " ")
}

func TestFind(t *testing.T) {
	joins := []string{"6 b t", "1 a -", "2 a t", "3 a u", "4 a t", "5 b -"}
	rows := []struct {
		word string
		do   func(r *wait.Room)
		want string
	}{
		{"nothing", func(*wait.Room) {}, "a0 a1 a2 a3 b1 b0"},
		{"Leave 1", func(r *wait.Room) { r.Leave(1) }, "- a0 a1 a2 b1 b0"},
		{"Leave 3", func(r *wait.Room) { r.Leave(3) }, "a0 a1 - a2 b1 b0"},
		{"Leave 4", func(r *wait.Room) { r.Leave(4) }, "a0 a1 a2 - b1 b0"},
		{"Leave 6", func(r *wait.Room) { r.Leave(6) }, "a0 a1 a2 a3 b0 -"},
		{"First a 1", func(r *wait.Room) { r.First("a", 1) }, "- a0 a1 a2 b1 b0"},
		{"First a 3", func(r *wait.Room) { r.First("a", 3) }, "- - - a0 b1 b0"},
		{"First b 1", func(r *wait.Room) { r.First("b", 1) }, "a0 a1 a2 a3 b0 -"},
		{"Cancel t", func(r *wait.Room) { r.Cancel("t") }, "a0 - a1 - b0 -"},
		{"Cancel u", func(r *wait.Room) { r.Cancel("u") }, "a0 a1 - a2 b1 b0"},
		{"Wake a", func(r *wait.Room) { r.Wake("a") }, "- - - - b1 b0"},
	}
	for _, row := range rows {
		r := roomOf(t, joins...)
		row.do(r)
		want(t, placesOf(r), row.want, "behind", row.word)
	}
}

func TestKeysByBytes(t *testing.T) {
	keys := []string{"b", "", "\xff", "ab", "a", "é", "B", "a\x00", "~", "\x80", "aa", "10", "9", "\x00", "zz", "_"}
	r := wait.New()
	for task, key := range keys {
		r.Join(task, key, "", 0)
		r.Join(task+50, key, "", 0)
	}
	const sorted = `["" "\x00" "10" "9" "B" "_" "a" "a\x00" "aa" "ab" "b" "zz" "~" "\x80" "é" "\xff"]`
	want(t, fmt.Sprintf("%q", r.Keys()), sorted, "Keys")
	for range 2 {
		var told []string
		for key, queue := range r.Each() {
			told = append(told, key)
			want(t, listText(queue), listText(r.Queue(key)), "Each of", strconv.Quote(key))
		}
		want(t, fmt.Sprintf("%q", told), sorted, "Each")
	}
	for task := range keys {
		r.Leave(task)
	}
	want(t, fmt.Sprintf("%q", r.Keys()), sorted, "Keys while one of each is left")
	r.Wake("")
	r.Leave(52) // the second one of \xff
	r.First("B", 1)
	want(t, fmt.Sprintf("%q %d", r.Keys(), r.Len()), `["\x00" "10" "9" "_" "a" "a\x00" "aa" "ab" "b" "zz" "~" "\x80" "é"] 13`, "Keys behind more")
}

// TestCounts: what is told of the whole room, behind each kind of call.
func TestCounts(t *testing.T) {
	r := roomOf(t, "1 a t", "2 a -", "3 b t", "4 c u", "5 c -")
	rows := []struct {
		word string
		do   func()
		want string
	}{
		{"nothing", func() {}, "5 [a b c]: a[1 2] b[3] c[4 5]"},
		{"Leave 1", func() { r.Leave(1) }, "4 [a b c]: a[2] b[3] c[4 5]"},
		{"Leave 1 again", func() { r.Leave(1) }, "4 [a b c]: a[2] b[3] c[4 5]"},
		{"Join 1", func() { r.Join(1, "b", "t", 0) }, "5 [a b c]: a[2] b[3 1] c[4 5]"},
		{"Join 1 again", func() { r.Join(1, "d", "t", 0) }, "5 [a b c]: a[2] b[3 1] c[4 5]"},
		{"First c 1", func() { r.First("c", 1) }, "4 [a b c]: a[2] b[3 1] c[5]"},
		{"First c 0", func() { r.First("c", 0) }, "4 [a b c]: a[2] b[3 1] c[5]"},
		{"First x 1", func() { r.First("x", 1) }, "4 [a b c]: a[2] b[3 1] c[5]"},
		{"Wake x", func() { r.Wake("x") }, "4 [a b c]: a[2] b[3 1] c[5]"},
		{"Queue x", func() { r.Queue("x") }, "4 [a b c]: a[2] b[3 1] c[5]"},
		{"Wake a", func() { r.Wake("a") }, "3 [b c]: b[3 1] c[5]"},
		{"First c 1 again", func() { r.First("c", 1) }, "2 [b]: b[3 1]"},
		{"Cancel u", func() { r.Cancel("u") }, "2 [b]: b[3 1]"},
		{"Cancel t", func() { r.Cancel("t") }, "0 []: "},
		{"Leave 1", func() { r.Leave(1) }, "0 []: "},
	}
	for _, row := range rows {
		row.do()
		want(t, fmt.Sprintf("%d %v: %s", r.Len(), r.Keys(), queuesOf(r)), row.want, "behind", row.word)
		want(t, fmt.Sprintf("%d", len(r.Queue("x"))), "0", "Queue of x behind", row.word)
	}
}
