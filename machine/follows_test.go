package machine_test

import (
	"testing"

	"onceweb/api"
	"onceweb/code"
	"onceweb/eval"
	"onceweb/machine"
)

// 10.1 to 10.4, 10.7 and 10.8, against the judge: all ways of small codes, and of many others one way at least.

func TestAllWaysOfSmallCodes(t *testing.T) {
	codes, ways := 0, 0
	look := func(c api.Code) {
		codes++
		ways += wantEveryWay(t, c)
	}
	for size := 2; size <= 5; size++ {
		smallCodes("int_0 force_a load_0 keep_0 leave_0 make_0 make_2 do_sub do_size done fail panic gate_g past", size, look)
	}
	smallCodes("force_a force_b do_join done fail", 6, look)
	smallCodes("force_a gate_g past done panic", 6, look)
	smallCodes("force_a keep_0 load_0 leave_0 done", 6, look)
	if codes < 20000 || ways < 100000 {
		t.Errorf("only %d codes, %d ways", codes, ways)
	}
}

func TestAllWaysOfExpressions(t *testing.T) {
	ways := 0
	for _, s := range []string{
		"[a, b, c]", "item([a, b], c)", "if a then [b, c] else d", "if a then if b then c else d else f", "a + b * c", "a & b & c", "[size(a), a < b, b == c]",
		"try a else b", "try try a else b else c", "try a + b else c", "try a else try b else c", "[9, try [8, a] else [7, b], c]", "try [1, try [2, a] else fail(b)] else [3, c]",
		"fail(a & b)", "panic(a & b)", "try panic(a) else b", "try fail(a) else panic(b)", "wait g . a + b", "[a, wait g . b, wait h . c]", "try wait g . a else wait h . b", "try [a, wait g . fail(b)] else c",
		"let $x = a in [$x, b, $x]", "let $x = a in let $y = b in [$x, $y, c]", "let $x = let $y = a in [$y] in [$x, b]", "let $x = a in try let $y = b in [$x, $y, fail(c)] else [$x, d]", "try let $x = a in $x + 1 else let $y = b in [$y, c]",
		"let $x = a in try wait g . let $y = $x + 1 in try b + $y else fail(c) else [$x, d]", "let $x = a in wait g . try if $x then b else panic(c) else [$x, d]",
	} {
		ways += wantEveryWay(t, codeFor(s))
	}
	for _, r := range anyway {
		ways += wantEveryWay(t, codeOf(r[0]))
	}
	if ways < 2500 {
		t.Errorf("only %d ways", ways)
	}
}

func TestWaysByChance(t *testing.T) {
	n := 0
	chances(6000, func(k maker, _ api.Expr, c api.Code) {
		n++
		oneWay(t, k.r, c)
	})
	changed := 0
	eachChanged(4000, func(k maker, c api.Code) {
		changed++
		oneWay(t, k.r, c)
	})
	if n < 5000 || changed < 5000 {
		t.Errorf("only %d, and %d", n, changed)
	}
}

// 10.5, of codes that no expression is compiled to

func TestRunOfChangedCodes(t *testing.T) {
	told := map[int]int{}
	eachChanged(5000, func(k maker, c api.Code) {
		known, open := k.world()
		m, e := machine.Run(c, known, open)
		if want := slowRun(c, known, open); e != api.OK || !sameMeaning(m, want) {
			t.Fatalf("Run(%v, %v, %v): %v, %v; want %v", c, known, open, m, e, want)
		}
		told[m.Outcome.Kind]++
	})
	for _, kind := range []int{api.ONone, api.OValue, api.OFail, api.OPanic} {
		if told[kind] < 100 {
			t.Errorf("the codes are all alike: %v", told)
		}
	}
}

// 10.6: it means what the expression means

func TestRunIsEval(t *testing.T) {
	told := map[int]int{}
	look := func(x api.Expr, known []api.Known, open []string) {
		want, f := eval.Eval(x, known, open)
		m, e := machine.Run(compile(x), known, open)
		if e != api.OK || f != api.OK || !sameMeaning(m, want) {
			t.Fatalf("Run of Compile of %v, known %v, open %v: %v, %v; want %v, %v", x, known, open, m, e, want, f)
		}
		told[m.Outcome.Kind]++
	}
	chances(12000, func(k maker, x api.Expr, _ api.Code) {
		for range 3 {
			known, open := k.world()
			look(x, known, open)
		}
	})
	for _, r := range everyKind {
		look(read(r.x), world, open)
		look(read(r.x), knownAs("a 5"), []string{"g", "h"})
	}
	for _, kind := range []int{api.ONone, api.OValue, api.OFail, api.OPanic} {
		if told[kind] < 1000 {
			t.Errorf("the expressions are all alike: %v", told)
		}
	}
}

// TestRunOfNestingsIsEval: every kind of operation in each part of every other one, and once more in each part of every third one, by each of the ways that an outcome goes.
func TestRunOfNestingsIsEval(t *testing.T) {
	wholes := []api.Op{
		{Kind: api.XList, N: 2}, {Kind: api.XAdd, N: 2}, {Kind: api.XJoin, N: 2}, {Kind: api.XItem, N: 2}, {Kind: api.XSize, N: 1}, {Kind: api.XLess, N: 2}, {Kind: api.XIf, N: 3}, {Kind: api.XTry, N: 2}, {Kind: api.XFail, N: 1}, {Kind: api.XPanic, N: 1},
		{Kind: api.XGate, N: 1, Text: "g"}, {Kind: api.XGate, N: 1, Text: "h"}, {Kind: api.XLet, N: 2, Text: "x"},
	}
	n := 0
	var walk func(left int, inner api.Expr)
	walk = func(left int, inner api.Expr) {
		for _, a := range wayOutcomes {
			for _, b := range wayOutcomes {
				n++
				known := []api.Known{{Name: "a", Outcome: a}, {Name: "b", Outcome: b}}
				want, _ := eval.Eval(inner, known, []string{"g"})
				if m, e := machine.Run(compile(inner), known, []string{"g"}); e != api.OK || !sameMeaning(m, want) {
					t.Fatalf("Run of Compile of %v, known %v: %v, %v; want %v", inner, known, m, e, want)
				}
			}
		}
		if left == 0 {
			return
		}
		for _, whole := range wholes {
			for place := range whole.N {
				var x api.Expr
				for i := range whole.N {
					switch {
					case i == place:
						x = append(x, inner...)
					case whole.Kind == api.XLet && i == 1:
						x = append(x, api.Op{Kind: api.XLocal, Text: "x"})
					default:
						x = append(x, api.Op{Kind: api.XName, Text: "b"})
					}
				}
				walk(left-1, append(x, whole))
			}
		}
	}
	walk(3, api.Expr{{Kind: api.XName, Text: "a"}})
	if n < 100000 {
		t.Errorf("only %d", n)
	}
}

// 10.8

// TestAllAreDone: it does all instructions of a code that leaves none out, and no more of any other one.
func TestAllAreDone(t *testing.T) {
	for _, size := range []int{2, 3, 100, code.MaxCode} {
		c := longCode(size)
		m := newOf(t, c)
		if finish(m); m.Done() != size || m.At() != size-1 {
			t.Errorf("%d instructions: %s", size, stands(m))
		}
	}
	chances(6000, func(_ maker, _ api.Expr, c api.Code) {
		m := newOf(t, c)
		if finish(m); m.Done() > len(c) || m.At() >= len(c) || m.Done() > m.At()+1 {
			t.Fatalf("%v: %s", c, stands(m))
		}
	})
}

// TestHighStack: as high as a stack may be, at each of its places.
func TestHighStack(t *testing.T) {
	// As many values as there is room for, which are then taken away, two at a time.
	const values = code.MaxCode / 2
	c := make(api.Code, 0, code.MaxCode)
	for range values {
		c = append(c, instr(api.CForce, "a"))
	}
	for range values - 1 {
		c = append(c, instr(api.CDo, api.XAdd))
	}
	c = append(c, halt)
	m := newOf(t, c)
	for i := range values {
		if e := m.Step(); eventText(e) != "cell a" || len(m.Stack()) != i || m.Done() != i {
			t.Fatalf("at %d: %v, %s", i, e, brief(stands(m)))
		}
		m.Give(outcome("2"))
	}
	if e := m.Step(); eventText(e) != "ended 1024" || m.Done() != code.MaxCode {
		t.Errorf("%v, %s", e, brief(stands(m)))
	}
}
