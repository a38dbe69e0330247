package code_test

import (
	"fmt"
	"math/rand"
	"slices"
	"strings"
	"testing"

	"onceweb/api"
	"onceweb/code"
	"onceweb/names"
)

// mustCompile is the code of x, which is right.
func mustCompile(t *testing.T, x api.Expr) api.Code {
	t.Helper()
	c, e := code.Compile(x)
	if e != api.OK {
		t.Fatalf("Compile(%v): %v", x, e)
	}
	return c
}

// renamed is x, which is right, with each XLet of the number k, and its locals, named l and k.
func renamed(x api.Expr) api.Expr {
	var y api.Expr
	var walk func(t *tree, lets []string)
	walk = func(t *tree, lets []string) {
		o := t.op
		for i, p := range t.parts {
			if o.Kind == api.XLet && i == 1 {
				walk(p, append(slices.Clone(lets), o.Text))
			} else {
				walk(p, lets)
			}
		}
		switch o.Kind {
		case api.XLet:
			o.Text = fmt.Sprint("l", len(lets))
		case api.XLocal:
			number := len(lets) - 1
			for lets[number] != o.Text {
				number--
			}
			o.Text = fmt.Sprint("l", number)
		}
		y = append(y, o)
	}
	walk(treeOf(x), nil)
	return y
}

// 9.1

func TestCompileAgainstTheJudge(t *testing.T) {
	n := 0
	eachRight(func(x api.Expr) {
		n++
		if c := mustCompile(t, x); !slices.Equal(c, slowCompile(x)) {
			t.Fatalf("Compile(%v): %v; want %v", x, c, slowCompile(x))
		}
	})
	if n < 20000 {
		t.Errorf("only %d expressions", n)
	}
}

// wantJudged asks whether Check tells of c what the judge does.
func wantJudged(t *testing.T, c api.Code) bool {
	t.Helper()
	sound := slowSound(c)
	if e := code.Check(c); e != api.OK && e != api.ErrCode || (e == api.OK) != sound {
		t.Fatalf("Check(%v): %v; sound: %v", c, e, sound)
	}
	return sound
}

func TestCheckOfAllSmallCodes(t *testing.T) {
	sound := 0
	look := func(c api.Code) {
		if wantJudged(t, c) {
			sound++
		}
	}
	for size := 1; size <= 5; size++ {
		smallCodes(smallLines, size, look)
	}
	smallCodes(strings.Fields("int_1 do_size fail gate_g past done"), 6, look)
	smallCodes(strings.Fields("int_1 keep_0 load_0 leave_0"), 6, look)
	if sound < 1000 {
		t.Errorf("only %d were sound", sound)
	}
}

// another is an instruction by chance that may stand at a place of a code of that size, or almost.
func another(r *rand.Rand, size int) api.Instr {
	in := api.Instr{Op: api.CInt + r.Intn(api.CPast)}
	switch in.Op {
	case api.CText, api.CForce, api.CGate:
		in.Text = []string{"a", "b", "g"}[r.Intn(3)]
	case api.CInt, api.CLoad, api.CKeep, api.CLeave, api.CMake:
		in.A = r.Intn(4)
	case api.CDo:
		in.A = api.XAdd + r.Intn(8)
	case api.CElse, api.CJump, api.CTry:
		in.A = r.Intn(size + 1)
	}
	return in
}

// changed is c with something changed by chance: an instruction taken for another one, put in, taken out, or turned about with its neighbour; or where a jump goes.
func changed(r *rand.Rand, c api.Code) api.Code {
	c = slices.Clone(c)
	at := r.Intn(len(c))
	switch r.Intn(5) {
	case 0:
		c[at] = another(r, len(c))
	case 1:
		return slices.Insert(c, at, another(r, len(c)))
	case 2:
		return slices.Delete(c, at, at+1)
	case 3:
		if at > 0 {
			c[at], c[at-1] = c[at-1], c[at]
		}
	case 4:
		for i := range c {
			in := &c[(at+i)%len(c)]
			if in.Op == api.CElse || in.Op == api.CJump || in.Op == api.CTry {
				in.A += r.Intn(5) - 2
				break
			}
		}
	}
	return c
}

// eachChanged calls f with codes of expressions by chance that were changed a little.
func eachChanged(f func(c api.Code)) {
	chances(4000, func(r *rand.Rand, x api.Expr) {
		c := slowCompile(x)
		for range 15 {
			d := changed(r, c)
			f(d)
			if len(d) > 0 {
				f(changed(r, d))
			}
		}
	})
}

func TestCheckOfChangedCodes(t *testing.T) {
	sound, unsound := 0, 0
	eachChanged(func(c api.Code) {
		if wantJudged(t, c) {
			sound++
		} else {
			unsound++
		}
	})
	if sound < 5000 || unsound < 5000 {
		t.Errorf("the codes are all alike: %d, %d", sound, unsound)
	}
}

// 9.2

// changedText is s with a byte put in, taken out, or taken for another one, by chance.
func changedText(r *rand.Rand, s string) string {
	at := r.Intn(len(s))
	const bytes = "int 0123456789-+ \n\"\\xabz_;\t\r"
	by := bytes[r.Intn(len(bytes)):][:1]
	switch r.Intn(3) {
	case 0:
		return s[:at] + by + s[at:]
	case 1:
		return s[:at] + s[at+1:]
	}
	return s[:at] + by + s[at+1:]
}

func TestParseOfChangedTexts(t *testing.T) {
	told := map[api.Errno]int{}
	chances(3000, func(r *rand.Rand, x api.Expr) {
		s, _ := code.Print(mustCompile(t, x))
		for range 15 {
			changed := changedText(r, s)
			c, f := code.Parse(changed)
			if want := slowParse(changed); f != want {
				t.Fatalf("Parse(%q): %v, want %v", changed, f, want)
			}
			told[f.Code]++
			if back, e := code.Print(c); f.Code == api.OK && (e != api.OK || back != changed) {
				t.Fatalf("%q is read, and told as %q, %v", changed, back, e)
			}
		}
	})
	for _, e := range []api.Errno{api.OK, api.ErrForm, api.ErrCode} {
		if told[e] < 500 {
			t.Errorf("the texts are all alike: %v", told)
		}
	}
}

// 9.3

// byCode is small expressions by their codes, told as text: those whose XLets have the names that Decompile gives them.
func byCode(t *testing.T, l api.Expr, most int) map[string]api.Expr {
	m := map[string]api.Expr{}
	small(l, most, func(x api.Expr) {
		if !slices.Equal(renamed(x), x) {
			return
		}
		key := fmt.Sprint(slowCompile(x))
		if y, twice := m[key]; twice {
			t.Fatalf("%v and %v are compiled to the same", x, y)
		}
		m[key] = x
	})
	return m
}

func TestDecompileOfAllSmallCodes(t *testing.T) {
	// An expression has fewer operations than its code has instructions.
	exprs := byCode(t, smallOps, 5)
	found, none := 0, 0
	look := func(c api.Code) {
		if !slowSound(c) {
			return
		}
		want, ok := exprs[fmt.Sprint(c)]
		x, e := code.Decompile(c)
		switch {
		case ok && (e != api.OK || !slices.Equal(x, want)):
			t.Fatalf("Decompile(%v): %v, %v; want %v", c, x, e, want)
		case !ok && (e != api.ErrNone || len(x) != 0):
			t.Fatalf("Decompile(%v): %v, %v; want ErrNone", c, x, e)
		case ok:
			found++
		default:
			none++
		}
	}
	for size := 1; size <= 5; size++ {
		smallCodes(smallLines, size, look)
	}
	smallCodes(strings.Fields("int_1 do_size fail gate_g past done"), 6, look)
	smallCodes(strings.Fields("int_1 keep_0 load_0 leave_0 make_0"), 6, look)
	if found < 50 || none < 1000 {
		t.Errorf("the codes are all alike: %d, %d", found, none)
	}
}

func TestDecompileOfChangedCodes(t *testing.T) {
	found, none := 0, 0
	eachChanged(func(c api.Code) {
		if !slowSound(c) {
			return
		}
		x, e := code.Decompile(c)
		switch {
		case e == api.OK && (names.Check(x) != api.OK || !slices.Equal(slowCompile(x), c) || !slices.Equal(renamed(x), x)):
			t.Fatalf("Decompile(%v): %v, whose code is another one, or whose locals have other names", c, x)
		case e != api.OK && (e != api.ErrNone || len(x) != 0):
			t.Fatalf("Decompile(%v): %v, %v", c, x, e)
		case e == api.OK:
			found++
		default:
			none++
		}
	})
	if found < 1000 || none < 1000 {
		t.Errorf("the codes are all alike: %d, %d", found, none)
	}
}

// 9.4

func TestCompiledIsSound(t *testing.T) {
	eachRight(func(x api.Expr) {
		c := mustCompile(t, x)
		if e := code.Check(c); e != api.OK {
			t.Fatalf("%v is compiled to %v: %v", x, c, e)
		}
		asked, _ := names.Asked(x)
		if l, e := code.Asked(c); e != api.OK || !slices.Equal(l, asked) {
			t.Fatalf("%v is compiled to what asks for %v, %v; want %v", x, l, e, asked)
		}
	})
}

// 9.5

func TestThereAndBack(t *testing.T) {
	eachRight(func(x api.Expr) {
		c := mustCompile(t, x)
		s, e := code.Print(c)
		d, f := code.Parse(s)
		if e != api.OK || f != (api.Fault{}) || !slices.Equal(c, d) {
			t.Fatalf("%v is told as %q, %v, and read as %v, %v", c, s, e, d, f)
		}
		y, e := code.Decompile(c)
		if e != api.OK || !slices.Equal(y, renamed(x)) {
			t.Fatalf("%v is compiled, and back: %v, %v", x, y, e)
		}
		if back := mustCompile(t, y); !slices.Equal(back, c) {
			t.Fatalf("%v is decompiled to %v, whose code is %v", c, y, back)
		}
	})
}

func TestSmallCodesThereAndBack(t *testing.T) {
	smallCodes(smallLines, 4, func(c api.Code) {
		s, e := code.Print(c)
		if e != api.OK {
			return
		}
		if d, f := code.Parse(s); f != (api.Fault{}) || !slices.Equal(c, d) {
			t.Fatalf("%v is told as %q, and read as %v, %v", c, s, d, f)
		}
	})
}

// 9.6

func TestTurnedAhead(t *testing.T) {
	jumps := 0
	eachRight(func(x api.Expr) {
		c := mustCompile(t, x)
		if e := code.Check(c[:len(c)-1]); e != api.ErrCode {
			t.Fatalf("%v without its last instruction: %v", c, e)
		}
		for at, in := range c {
			if in.Op != api.CElse && in.Op != api.CJump && in.Op != api.CTry {
				continue
			}
			jumps++
			d := slices.Clone(c)
			for _, to := range []int{at, at - 1, at / 2, 0, -1} {
				d[at].A = to
				if e := code.Check(d); e != api.ErrCode {
					t.Fatalf("%v, at %d turned to %d: %v", c, at, to, e)
				}
			}
		}
	})
	if jumps < 10000 {
		t.Errorf("only %d jumps", jumps)
	}
}

func TestSmallCodesTurnedAhead(t *testing.T) {
	smallCodes(smallLines, 4, func(c api.Code) {
		if code.Check(c) != api.OK {
			return
		}
		if e := code.Check(c[:len(c)-1]); e != api.ErrCode {
			t.Fatalf("%v without its last instruction: %v", c, e)
		}
		for at, in := range c {
			if in.Op != api.CElse && in.Op != api.CJump && in.Op != api.CTry {
				continue
			}
			for to := range at + 1 {
				d := slices.Clone(c)
				d[at].A = to
				if e := code.Check(d); e != api.ErrCode {
					t.Fatalf("%v, at %d turned to %d: %v", c, at, to, e)
				}
			}
		}
	})
}
