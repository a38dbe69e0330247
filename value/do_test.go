package value_test

import (
	"math"
	"slices"
	"strings"
	"testing"

	"onceweb/api"
	"onceweb/value"
)

func wantDone(t *testing.T, kind int, want api.Value, args ...api.Value) {
	t.Helper()
	if v, ok, e := value.Do(kind, args); !ok || e != api.OK || !slices.Equal(v, want) {
		t.Errorf("Do(%d, %s): %s, %v, %v; want %s", kind, brief(args), brief(v), ok, e, brief(want))
	}
}

func wantUnfit(t *testing.T, kind int, args ...api.Value) {
	t.Helper()
	if v, ok, e := value.Do(kind, args); ok || e != api.OK || len(v) != 0 {
		t.Errorf("Do(%d, %s): %s, %v, %v; want false", kind, brief(args), brief(v), ok, e)
	}
}

func wantRefused(t *testing.T, kind int, args []api.Value, want api.Errno) {
	t.Helper()
	if v, ok, e := value.Do(kind, args); ok || e != want || len(v) != 0 {
		t.Errorf("Do(%d, %s): %s, %v, %v; want %v", kind, brief(args), brief(v), ok, e, want)
	}
}

// ofEach has values of each kind.
var ofEach = []api.Value{number(0), number(1), number(-most), text(""), text("a"), text("1"), list(), list(number(1)), list(text("a"), list()), deep(api.MaxNest, list())}

func kindOf(v api.Value) int { return v[len(v)-1].Kind }

// 7.3

func TestDoOfNumbers(t *testing.T) {
	for _, c := range []struct{ kind, a, b, want int }{
		{api.XAdd, 2, 3, 5}, {api.XAdd, 0, 0, 0}, {api.XAdd, -2, 3, 1}, {api.XAdd, most, 0, most}, {api.XAdd, most - 1, 1, most}, {api.XAdd, 1 - most, -1, -most}, {api.XAdd, most, -most, 0}, {api.XAdd, most / 2, most / 2, most},
		{api.XSub, 2, 3, -1}, {api.XSub, 3, 2, 1}, {api.XSub, 0, most, -most}, {api.XSub, 0, -most, most}, {api.XSub, most, most, 0}, {api.XSub, -most, -most, 0}, {api.XSub, 1 - most, 1, -most}, {api.XSub, most - 1, -1, most},
		{api.XMul, 2, 3, 6}, {api.XMul, -2, 3, -6}, {api.XMul, -2, -3, 6}, {api.XMul, 0, most, 0}, {api.XMul, most, 0, 0}, {api.XMul, -most, 0, 0}, {api.XMul, 0, 0, 0}, {api.XMul, 1, most, most}, {api.XMul, most, 1, most}, {api.XMul, -1, most, -most}, {api.XMul, -most, -1, most}, {api.XMul, -most, 1, -most},
		{api.XMul, 1 << 26, 1 << 27, most}, {api.XMul, 1 << 26, -(1 << 27), -most}, {api.XMul, -(1 << 26), -(1 << 27), most}, {api.XMul, 94906265, 94906265, 9007199136250225}, {api.XMul, most / 3, 3, most - 2},
	} {
		wantDone(t, c.kind, number(c.want), number(c.a), number(c.b))
	}
	for _, c := range []struct{ kind, a, b int }{
		{api.XAdd, most, 1}, {api.XAdd, 1, most}, {api.XAdd, -most, -1}, {api.XAdd, most, most}, {api.XAdd, -most, -most},
		{api.XSub, -most, 1}, {api.XSub, most, -1}, {api.XSub, most, -most}, {api.XSub, -most, most}, {api.XSub, -1, most}, {api.XSub, 1, -most},
		{api.XMul, 2, most}, {api.XMul, most, 2}, {api.XMul, -2, most}, {api.XMul, most, -2}, {api.XMul, most/2 + 1, 2}, {api.XMul, -2, most/2 + 1}, {api.XMul, 94906266, 94906266}, {api.XMul, -94906266, 94906266}, {api.XMul, most/3 + 1, 3},
		// Products that wrap round to a number that would fit, nought and 1 << 41 among them.
		{api.XMul, 1 << 32, 1 << 32}, {api.XMul, most, most}, {api.XMul, -most, most}, {api.XMul, -most, -most}, {api.XMul, 1 << 53, 1 << 11}, {api.XMul, 1<<32 + 1<<9, 1 << 32}, {api.XMul, 1 << 33, 1 << 31},
	} {
		wantUnfit(t, c.kind, number(c.a), number(c.b))
	}
}

// wantUnfitKinds asks that kind fits two of ofEach only if fits says so of their kinds.
func wantUnfitKinds(t *testing.T, kind int, fits func(a, b int) bool) {
	t.Helper()
	for _, a := range ofEach {
		for _, b := range ofEach {
			if !fits(kindOf(a), kindOf(b)) {
				wantUnfit(t, kind, a, b)
			}
		}
	}
}

func TestDoOfOtherKinds(t *testing.T) {
	for _, kind := range []int{api.XAdd, api.XSub, api.XMul} {
		wantUnfitKinds(t, kind, func(a, b int) bool { return a == api.VInt && b == api.VInt })
	}
	wantUnfitKinds(t, api.XJoin, func(a, b int) bool { return a == b && a != api.VInt })
	wantUnfitKinds(t, api.XItem, func(a, b int) bool { return a == api.VList && b == api.VInt })
	for _, n := range []int{0, 1, -1, most, -most} {
		wantUnfit(t, api.XSize, number(n))
	}
}

func TestDoJoin(t *testing.T) {
	for _, c := range []struct{ a, b string }{{"", ""}, {"a", ""}, {"", "b"}, {"a", "b"}, {"b", "a"}, {"a\x00", "\xff"}, {longText, ""}, {"", longText}, {longText[1:], "a"}, {longText[longest/2:], longText[longest/2:]}} {
		wantDone(t, api.XJoin, text(c.a+c.b), text(c.a), text(c.b))
	}
	for _, c := range []struct{ a, b string }{{longText, "a"}, {"a", longText}, {longText, longText}, {longText[longest/2:], longText[longest/2-1:]}} {
		wantUnfit(t, api.XJoin, text(c.a), text(c.b))
	}
	one, two := []api.Value{number(1)}, []api.Value{list(text("a"), list()), text("b")}
	for _, a := range [][]api.Value{nil, one, two} {
		for _, b := range [][]api.Value{nil, one, two} {
			wantDone(t, api.XJoin, list(slices.Concat(a, b)...), list(a...), list(b...))
		}
	}
	wantDone(t, api.XJoin, broad(api.MaxAtoms), broad(api.MaxAtoms-1), list(number(1)))
	wantDone(t, api.XJoin, broad(api.MaxAtoms), list(number(1)), broad(api.MaxAtoms-1))
	wantDone(t, api.XJoin, broad(api.MaxAtoms), broad(api.MaxAtoms), list())
	wantDone(t, api.XJoin, broad(api.MaxAtoms), list(), broad(api.MaxAtoms))
	wantUnfit(t, api.XJoin, broad(api.MaxAtoms), list(number(1)))
	wantUnfit(t, api.XJoin, list(number(1)), broad(api.MaxAtoms))
	wantUnfit(t, api.XJoin, broad(api.MaxAtoms), broad(api.MaxAtoms))
	wantUnfit(t, api.XJoin, broad(api.MaxAtoms-1), list(list(), list()))
	wantUnfit(t, api.XJoin, broad(api.MaxAtoms-1), list(list(number(1))))
	bottom := deep(api.MaxNest, list())
	wantDone(t, api.XJoin, list(bottom[:len(bottom)-1], bottom[:len(bottom)-1]), bottom, bottom)
}

func TestDoItem(t *testing.T) {
	members := []api.Value{number(7), text("a"), list(), list(number(1), list(text("b"))), number(-7), list(list(), list())}
	for i, member := range members {
		wantDone(t, api.XItem, member, list(members...), number(i))
		wantDone(t, api.XItem, member, list(member), number(0))
	}
	for _, n := range []int{-1, len(members), len(members) + 1, -len(members), most, -most} {
		wantUnfit(t, api.XItem, list(members...), number(n))
	}
	for _, n := range []int{0, -1, 1} {
		wantUnfit(t, api.XItem, list(), number(n))
	}
	wantDone(t, api.XItem, number(1), broad(api.MaxAtoms), number(api.MaxAtoms-2))
	wantUnfit(t, api.XItem, broad(api.MaxAtoms), number(api.MaxAtoms-1))
	wantDone(t, api.XItem, deep(api.MaxNest-1, list()), deep(api.MaxNest, list()), number(0))
	wantUnfit(t, api.XItem, number(0), list(number(1)))
	wantUnfit(t, api.XItem, text("abc"), number(0))
}

func TestDoSize(t *testing.T) {
	for s, n := range map[string]int{"": 0, "a": 1, "\xc3\xa9": 2, "\x00\n\"": 3, longText: longest} {
		wantDone(t, api.XSize, number(n), text(s))
	}
	wantDone(t, api.XSize, number(0), list())
	wantDone(t, api.XSize, number(1), list(list(number(1), number(2), number(3))))
	wantDone(t, api.XSize, number(3), list(list(number(1), number(2)), number(3), list()))
	wantDone(t, api.XSize, number(api.MaxAtoms-1), broad(api.MaxAtoms))
	wantDone(t, api.XSize, number(1), deep(api.MaxNest, number(1)))
}

func TestDoLessAndSame(t *testing.T) {
	truth := map[bool]api.Value{true: number(1), false: number(0)}
	for i, a := range rising {
		for j, b := range rising {
			wantDone(t, api.XLess, truth[i < j], a, b)
			wantDone(t, api.XSame, truth[i == j], slices.Clone(a), b)
		}
	}
}

func TestDoList(t *testing.T) {
	wantDone(t, api.XList, list())
	if v, ok, e := value.Do(api.XList, []api.Value{}); !ok || e != api.OK || !slices.Equal(v, list()) {
		t.Errorf("the list of nothing: %v, %v, %v", v, ok, e)
	}
	for _, v := range ofEach[:len(ofEach)-1] {
		wantDone(t, api.XList, list(v), v)
		wantDone(t, api.XList, list(v, number(1), v), v, number(1), v)
	}
	ones := slices.Repeat([]api.Value{number(1)}, api.MaxItems)
	wantDone(t, api.XList, broad(api.MaxAtoms), ones[:api.MaxAtoms-1]...)
	wantUnfit(t, api.XList, ones[:api.MaxAtoms]...)
	wantUnfit(t, api.XList, ones...)
	wantUnfit(t, api.XList, broad(api.MaxAtoms))
	wantDone(t, api.XList, list(broad(api.MaxAtoms-1)), broad(api.MaxAtoms-1))
	wantUnfit(t, api.XList, broad(api.MaxAtoms-1), number(1))
	wantDone(t, api.XList, list(number(1), deep(api.MaxNest-1, list())), number(1), deep(api.MaxNest-1, list()))
	wantUnfit(t, api.XList, number(1), deep(api.MaxNest, list()))
	wantUnfit(t, api.XList, deep(api.MaxNest, number(1)))
}

// parts are the operations of values, with how many parts each has (of XList any).
var parts = map[int]int{api.XList: -1, api.XAdd: 2, api.XSub: 2, api.XMul: 2, api.XJoin: 2, api.XItem: 2, api.XSize: 1, api.XLess: 2, api.XSame: 2}

func TestDoOfWrongKinds(t *testing.T) {
	long := make([]api.Value, api.MaxItems+1)
	for kind := -30; kind <= 30; kind++ {
		if _, ok := parts[kind]; ok {
			continue
		}
		for _, args := range [][]api.Value{nil, {number(1)}, {number(1), number(2)}, {number(1), number(2), number(3)}, {nil}, {nil, tooLong[0]}, long} {
			wantRefused(t, kind, args, api.ErrRange)
		}
	}
	for _, kind := range []int{math.MinInt, math.MaxInt, 1 << 32, 1<<32 + api.XAdd} {
		wantRefused(t, kind, []api.Value{number(1), number(2)}, api.ErrRange)
	}
}

func TestDoOfWrongNumbersOfArguments(t *testing.T) {
	ones := slices.Repeat([]api.Value{number(1)}, api.MaxItems+1)
	wrongOnes := append([]api.Value{nil, tooLong[0]}, ones[2:]...)
	for kind, n := range parts {
		for _, args := range [][]api.Value{ones, wrongOnes, make([]api.Value, api.MaxItems+1)} {
			wantRefused(t, kind, args, api.ErrLong)
		}
		if n < 0 {
			continue
		}
		for _, count := range []int{0, 1, 2, 3, 4, api.MaxItems} {
			if count != n {
				wantRefused(t, kind, ones[:count], api.ErrShape)
				wantRefused(t, kind, wrongOnes[:count], api.ErrShape)
				wantRefused(t, kind, slices.Repeat([]api.Value{tooLong[0]}, count), api.ErrShape)
			}
		}
	}
	wantRefused(t, api.XList, wrongOnes[:api.MaxItems], api.ErrShape)
}

func TestDoOfWrongArguments(t *testing.T) {
	noValues(func(w api.Value, want api.Errno) {
		for kind, n := range parts {
			if n == 1 {
				wantRefused(t, kind, []api.Value{w}, want)
				continue
			}
			for _, v := range ofEach {
				wantRefused(t, kind, []api.Value{w, v}, want)
				wantRefused(t, kind, []api.Value{v, w}, want)
			}
		}
	})
	for kind, n := range parts {
		if n != 1 {
			wantRefused(t, kind, []api.Value{nil, tooLong[0]}, api.ErrShape)
			wantRefused(t, kind, []api.Value{tooLong[0], nil}, api.ErrLong)
		}
	}
	wantRefused(t, api.XList, append(slices.Repeat([]api.Value{broad(api.MaxAtoms)}, 5), nil), api.ErrShape)
}

// 7.4

func TestWord(t *testing.T) {
	want := strings.Split(",,,,,list,add,sub,mul,join,item,size,less,same,if,,fail,panic,,", ",")
	for kind, w := range want {
		if s := value.Word(kind); s != w {
			t.Errorf("Word(%d): %q, want %q", kind, s, w)
		}
	}
	for _, kind := range []int{-1, -api.XAdd, len(want), len(want) + 1, 100, 1<<32 + api.XAdd, math.MinInt, math.MaxInt} {
		if s := value.Word(kind); s != "" {
			t.Errorf("Word(%d): %q", kind, s)
		}
	}
}
