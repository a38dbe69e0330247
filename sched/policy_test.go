package sched_test

import (
	"math"
	"strconv"
	"testing"

	"onceweb/api"
	"onceweb/sched"
)

// 20.2: what each policy picks.

func TestFirstAndLast(t *testing.T) {
	ready := "4 2; 2 4; 0; 127; 127 0; 5 9 7; 9 7 5; 7 5 9; 3 2 1 0"
	want(t, picksText(sched.First(), readyOf(ready)), "2 2 0 127 0 5 5 5 0", "First")
	want(t, picksText(sched.Last(), readyOf(ready)), "4 4 0 127 127 9 9 9 3", "Last")
	all := [][]int{upTo(api.MaxTasks), falling(upTo(api.MaxTasks))}
	want(t, picksText(sched.First(), all), "0 0", "First of all")
	want(t, picksText(sched.Last(), all), "127 127", "Last of all")
}

func TestRound(t *testing.T) {
	for ready, wanted := range map[string]string{
		"3 1 2; 3 1; 3 1":                   "1 3 1",
		"0 1 2; 0 1 2; 0 1 2; 0 1 2; 0 1 2": "0 1 2 0 1",
		"0; 0; 0":                           "0 0 0",
		"2 1 0; 0 2 1; 1 0 2; 2 0 1":        "0 1 2 0",
		"5; 4 3; 4 3; 4 3":                  "5 3 4 3",
		"5; 5 6 4; 5 4; 5 4; 4 3":           "5 6 4 5 3",
		"127; 127; 0 127; 0 127; 127; 0":    "127 127 0 127 127 0",
		"1 9; 0 5 9; 0 9; 9; 8 7; 8 7; 8 7": "1 5 9 9 7 8 7",
		"1 3; 2; 3 1; 3 1; 1 2":             "1 2 3 1 2",
		"0; 1 0; 2 1 0; 3 2 1 0; 3 2 1 0":   "0 1 2 3 0",
	} {
		want(t, picksText(sched.Round(), readyOf(ready)), wanted, "Round of", ready)
	}
}

func TestRoundOfAll(t *testing.T) {
	s := sched.Round()
	for number := range 3 * api.MaxTasks {
		want(t, nextText(s.Next(falling(upTo(api.MaxTasks)))), strconv.Itoa(number%api.MaxTasks), "Round of all, pick", number)
	}
}

func TestFair(t *testing.T) {
	for ready, wanted := range map[string]string{
		"0 1; 0 1; 0 2; 0 2":                      "0 1 2 0",
		"0 1; 0 1; 0 2; 2 0; 2 0; 2 1 0":          "0 1 2 0 2 1",
		"0; 0; 0; 0 1; 0 1; 0 1; 0 1; 0 1":        "0 0 0 1 1 1 0 1",
		"5 4 3; 5 4 3; 5 4 3; 5 4 3":              "3 4 5 3",
		"3 5; 4 3 5; 5 3 4; 4 3; 4 5; 5 4":        "3 4 5 3 4 5",
		"2; 2; 1 2; 1 2; 0 1 2; 0 1 2; 0 1 2":     "2 2 1 1 0 0 0",
		"127 0; 127 0; 0 127; 127; 127; 0 127":    "0 127 0 127 127 0",
		"9; 9; 8; 9 8; 9 8; 7 9; 7 8; 7 9 8; 9":   "9 9 8 8 8 7 7 7 9",
		"1; 1; 0; 0; 0 1; 0 1; 2 0 1; 0 1":        "1 1 0 0 0 1 2 0",
		"6 7; 6 7; 6 7; 7; 6 7; 6 7; 8; 6 7 8; 8": "6 7 6 7 6 7 8 8 8",
	} {
		want(t, picksText(sched.Fair(), readyOf(ready)), wanted, "Fair of", ready)
	}
}

func TestScripted(t *testing.T) {
	for _, c := range []struct {
		list          string
		ready, wanted string
	}{
		{"5 0", "7 9; 7 9; 9 8", "9 7 8"},
		{"5 0", "9 7; 9 7; 8 9", "9 7 8"},
		{"", "7 9; 9 8; 3", "7 8 3"},
		{"0", "7 9; 7 9", "7 7"},
		{"1", "7 9; 7 9; 9 7 8", "9 7 7"},
		{"2", "7 9; 7 9", "7 7"},
		{"1 1 1 1", "3 1 2; 5; 2 1; 6 5 4; 6 5 4", "2 5 2 5 4"},
		{"2 2 2 2", "3 1 2; 5; 2 1; 6 5 4; 6 5 4", "3 5 1 6 4"},
		{"3 4 5 6 7", "3 1 2; 3 1 2; 3 1 2; 3 1 2; 3 1 2; 3 1 2", "1 2 3 1 2 1"},
		{"0 1 2", "9; 9; 9; 9 8; 9 8", "9 9 9 8 8"},
		{strconv.Itoa(math.MaxInt) + " " + strconv.Itoa(math.MaxInt-1), "0 1 2 3; 0 1 2 3; 0 1 2 3", "3 2 0"},
	} {
		s := made(t)(sched.Scripted(readyOf(c.list)[0]))
		want(t, picksText(s, readyOf(c.ready)), c.wanted, "Scripted by", c.list, "of", c.ready)
	}
}

// The longest list: its last member is the last that counts.
func TestScriptedToTheEnd(t *testing.T) {
	s := made(t)(sched.Scripted(long(api.MaxItems, 1)))
	for number := range api.MaxItems {
		want(t, nextText(s.Next([]int{9, 7, 8})), "8", "Scripted, pick", number)
	}
	want(t, picksText(s, readyOf("9 7 8; 9 7 8; 9 8")), "7 7 8", "Scripted behind its list's end")
	want(t, strconv.Itoa(s.Count()), strconv.Itoa(api.MaxItems+3), "and its count")
}

func TestPriority(t *testing.T) {
	great := strconv.Itoa(api.MaxInt)
	for _, c := range []struct {
		weights       string
		ready, wanted string
	}{
		{"1 5 5", "0 1 2; 0 9; 2 1; 2 0; 9 8; 0 9", "1 0 1 2 8 0"},
		{"", "2 1 3; 127; 127 126", "1 127 126"},
		{"0", "0 1; 1; 2 1", "0 1 1"},
		{"0 0 0", "2 1 0; 2 1; 3 2; 3", "0 1 2 3"},
		{"0 0 0 1", "2 1 0; 3 0; 4 3; 9 4 0; 9 4", "0 3 3 0 4"},
		{"0 1", "2 0; 2 1; 5 1 0; 5 2", "0 1 1 2"},
		{"9 8 7", "0 1 2; 1 2; 2; 2 3; 3 1 2", "0 1 2 2 1"},
		{"7 8 9", "0 1 2; 1 0; 0; 0 3; 3 1 0", "2 1 0 0 1"},
		{great + " " + great, "1 0; 1 2; 0 5", "0 1 0"},
		{"1 " + great, "0 1; 0 2", "1 0"},
	} {
		s := made(t)(sched.Priority(readyOf(c.weights)[0]))
		want(t, picksText(s, readyOf(c.ready)), c.wanted, "Priority by", c.weights, "of", c.ready)
	}
}

// As many weights as there may be: the last one counts.
func TestPriorityOfAll(t *testing.T) {
	s := made(t)(sched.Priority(upTo(api.MaxTasks)))
	want(t, picksText(s, [][]int{upTo(api.MaxTasks), falling(upTo(api.MaxTasks)), {126, 127}, {5, 126, 9}}), "127 127 127 126", "Priority by rising weights")
	s = made(t)(sched.Priority(with(long(api.MaxTasks, 0), api.MaxTasks-1, 1)))
	want(t, picksText(s, [][]int{upTo(api.MaxTasks), upTo(api.MaxTasks - 1)}), "127 0", "Priority by one weight, the last")
}

// A throw a pick, though one alone be ready, or more than before.
func TestSeeded(t *testing.T) {
	ready := readyOf("0 1 2; 2 0 1; 7; 9 8 7 6; 3 4; 4 3; 5 0 9 8 1; 127; 1 0; 0 1 2")
	orders := readyOf("0 1 2; 0 1 2; 7; 6 7 8 9; 3 4; 3 4; 0 1 5 8 9; 127; 0 1; 0 1 2")
	for _, seed := range []uint64{0, 1, 2, 3, 1 << 32, 1 << 63, math.MaxUint64} {
		throws, _ := sched.Throws(seed, len(ready))
		var wanted []int
		for number, l := range orders {
			wanted = append(wanted, l[throws[number]>>33%uint64(len(l))])
		}
		want(t, picksText(sched.Seeded(seed), ready), listText(wanted), "Seeded by", seed)
	}
	// The throws of 1, shifted to the right by 33: 603088677, 1441256276, 1558742727, 651824208, 120638680, 1681106405, 1747540332, 1446561404, 727275665.
	want(t, picksText(sched.Seeded(1), ready), "0 2 7 6 3 4 5 127 1 0", "Seeded by 1")
}
