package value_test

import (
	"math/rand"
	"strings"
	"testing"

	"onceweb/api"
	"onceweb/value"
)

// 7.5

func TestPrintAndParse(t *testing.T) {
	for _, c := range told {
		if s, e := value.Print(c.v); s != c.s || e != api.OK {
			t.Errorf("Print: %.200s, %v; want %.200s", s, e, c.s)
		}
		v, e := value.Parse(c.s)
		wantValue(t, "Parse of "+c.s[:min(60, len(c.s))], v, e, c.v)
	}
}

func TestPrintOfWrongOnes(t *testing.T) {
	noValues(func(w api.Value, want api.Errno) {
		if s, e := value.Print(w); s != "" || e != want {
			t.Errorf("Print(%s): %.200q, %v; want %v", brief(w), s, e, want)
		}
	})
}

func TestTextsAtTheirLimits(t *testing.T) {
	nested := func(depth int, inner string) string {
		return strings.Repeat("[", depth-1) + inner + strings.Repeat("]", depth-1)
	}
	for _, c := range []struct {
		v api.Value
		s string
	}{
		{broad(api.MaxAtoms), "[" + strings.Repeat("1, ", api.MaxAtoms-2) + "1]"},
		{deep(api.MaxNest, list()), nested(api.MaxNest, "[]")},
		{deep(api.MaxNest, number(-1)), nested(api.MaxNest, "-1")},
		{list(text(longText), text("")), `["` + strings.Repeat(`\x00`, longest) + `", ""]`},
	} {
		if s, e := value.Print(c.v); s != c.s || e != api.OK {
			t.Errorf("Print: %.80s, %v; want %.80s", s, e, c.s)
		}
		v, e := value.Parse(c.s)
		wantValue(t, "Parse", v, e, c.v)
	}
	for _, s := range []string{
		"[" + strings.Repeat("1, ", api.MaxAtoms-1) + "1]", nested(api.MaxNest+1, "[]"), nested(api.MaxNest+1, "1"), nested(api.MaxNest+1, `""`),
		`"` + strings.Repeat("a", longest+1) + `"`, `"` + strings.Repeat(`\x00`, longest+1) + `"`, `["` + strings.Repeat("a", longest+1) + `"]`,
		"9007199254740993", "-9007199254740993", "[9007199254740993]", "9223372036854775807", "-9223372036854775808", "18446744073709551617", strings.Repeat("9", 400),
	} {
		v, e := value.Parse(s)
		wantNoValue(t, "a value that is not right", v, e, api.ErrForm)
	}
}

func TestParseOfLongTexts(t *testing.T) {
	// Fifteen texts of MaxWord bytes, and one that fills what is left.
	var members []api.Value
	var parts []string
	for range 15 {
		s := strings.Repeat("a", longest)
		members, parts = append(members, text(s)), append(parts, `"`+s+`"`)
	}
	last := strings.Repeat("b", api.MaxText-len("["+strings.Join(parts, ", ")+`, ""]`))
	members, parts = append(members, text(last)), append(parts, `"`+last+`"`)
	full := "[" + strings.Join(parts, ", ") + "]"
	if len(full) != api.MaxText || len(last) > longest {
		t.Fatalf("the test's own text is off: %d, %d", len(full), len(last))
	}
	v, e := value.Parse(full)
	wantValue(t, "the longest text", v, e, list(members...))
	for _, s := range []string{full + " ", strings.Replace(full, "b", "bb", 1), strings.Repeat(" ", api.MaxText+1), strings.Repeat("[", api.MaxText+1), strings.Repeat("1", 2*api.MaxText), strings.Repeat("?", api.MaxText+1)} {
		v, e = value.Parse(s)
		wantNoValue(t, "a text that is too long", v, e, api.ErrLong)
	}
	for _, s := range []string{strings.Repeat(" ", api.MaxText), strings.Repeat("[", api.MaxText), strings.Repeat("]", api.MaxText), strings.Repeat("1", api.MaxText), strings.Repeat("-", api.MaxText), strings.Repeat("[]", api.MaxText/2), strings.Repeat("[", api.MaxText/2) + strings.Repeat("]", api.MaxText/2), "[" + strings.Repeat("[], ", api.MaxText/4-1) + "1]"} {
		v, e = value.Parse(s)
		wantNoValue(t, "a long text", v, e, api.ErrForm)
	}
}

// A value may be right, and its text longer than what is read.
func TestPrintOfLongTexts(t *testing.T) {
	long := make([]api.Value, api.MaxAtoms-1)
	for i := range long {
		long[i] = text(longText)
	}
	one := `"` + strings.Repeat(`\x00`, longest) + `"`
	s, e := value.Print(list(long...))
	if s != "["+strings.Repeat(one+", ", len(long)-1)+one+"]" || e != api.OK {
		t.Errorf("Print: %d bytes, %v", len(s), e)
	}
	v, e := value.Parse(s)
	wantNoValue(t, "Parse of it", v, e, api.ErrLong)
}

// noTexts are the texts of no value.
var noTexts = []string{
	"", " ", "a", "cell", "$a", "null", "true", "é", "?", "\x00", "#", "# a", "()", "(1)", "{}", "<", "==", ".", ";", "+",
	// Numbers.
	"-", "--1", "+1", "+0", "-0", "00", "01", "-01", "007", "-007", "1-", "1 2", "1.0", ".5", "1.", "1e3", "0x1", "1_0", "1a", "a1", "- 1", "-  1", "1 -1", "1-1", "-\n1", "١",
	// Blanks, and what is read as such elsewhere.
	" 1", "1 ", "1\n", "\t1", "1#", "1 # one", "# one\n1", "[ ]", "[ 1]", "[1 ]", " []", "[] ", "[\n]", "[1,  2]", "[1 , 2]", "[1,\t2]", "[1,\n2]", "[1, 2 ]", "[1, #\n2]", ` "a"`, `"a" `,
	// Commas.
	",", "[,]", "[, ]", "[1,]", "[1, ]", "[,1]", "[, 1]", "[1,2]", "[1,, 2]", "[1, , 2]", "[1 2]", "[12, ]", "1,", "1, 2", ", 1", "[], []", "[1], ", "[[1],[2]]", "[[1] [2]]", "[[1][2]]", `["a" "b"]`, `["a""b"]`, "[1-2]", "[1; 2]", "[1. 2]",
	// Brackets.
	"[", "]", "[]]", "[[]", "[1", "1]", "][", "[1]]", "[[1]", "[1, [2]", "[1], 2]", "[][]", "[]1", "1[]", "[1](", "(1]", "-[1]", "-[]", "[-]", "[1, -]", "[-[1]]", "[--1]", "-[-1]", "[1]-", "]1[", "[1, 2]]", "[[1, 2]",
	// Texts.
	`"`, `"a`, `a"`, `'a'`, `""a"`, `"a""b"`, `"a" "b"`, `"\`, `"\"`, `"\x41"`, `"\xC8"`, `"\x0a"`, `"\t"`, `"\x"`, `"\q"`, "\"\n\"", "\"\xff\"", `"é"`, `-"a"`, `["a]`, `["a"`, `"a"]`, "`a`", `["]`,
	// Words between what is right.
	"[a]", "[1, a]", "[1 a, 2]", "[cell 1]", "a 1", "1 a", "[$x]", "[1 + 2]", "[(1)]", "[1]a", "size []",
}

func TestParseOfWrongOnes(t *testing.T) {
	for _, s := range noTexts {
		for _, around := range []string{s, "[" + s + "]", "[1, " + s + "]", "[" + s + ", 1]", "[[], [" + s + ", []]]"} {
			// A row of members, or nothing at all, is wrong by itself alone.
			if around != s && (s == "" || s == "1, 2" || s == "[], []") {
				continue
			}
			v, e := value.Parse(around)
			wantNoValue(t, "Parse of "+around, v, e, api.ErrForm)
		}
	}
}

// wantText asks that s is the text of what it is parsed as, if it is parsed, and that this is just so if it has the form of a text; it tells whether it is parsed.
func wantText(t *testing.T, s string) bool {
	t.Helper()
	v, e := value.Parse(s)
	if _, rest, ok := slowParse(s, 1); (ok && rest == "") != (e == api.OK) {
		t.Errorf("Parse(%.200q): %v", s, e)
	}
	if e != api.OK {
		wantNoValue(t, s, v, e, api.ErrForm)
		return false
	}
	if back, e := value.Print(v); back != s || e != api.OK || value.Check(v) != api.OK {
		t.Errorf("Parse(%.200q): %s, whose text is %.200q, %v", s, brief(v), back, e)
	}
	return true
}

// 7.8

func TestPrintOfParse(t *testing.T) {
	pieces := []string{"[", "]", ", ", ",", " ", "-", "0", "1", "12", `"`, `"a"`, `\x00`, "a", "#", "\n"}
	parsed := 0
	var walk func(s string, left int)
	walk = func(s string, left int) {
		if wantText(t, s) {
			parsed++
		}
		if left == 0 {
			return
		}
		for _, p := range pieces {
			walk(s+p, left-1)
		}
	}
	walk("", 5)
	for _, front := range []string{"[1, ", "[[], ", `["a"`, "[[1, 2], [", "[-1, [[", "[[1]"} {
		walk(front, 4)
	}
	if parsed < 100 {
		t.Errorf("%d were parsed", parsed)
	}
}

func TestParseOfTextsWithOneByteOff(t *testing.T) {
	const bytes = "a0-1 ,[]\"\\n\n\x00\xff#"
	for _, c := range told {
		if len(c.s) > 100 {
			continue
		}
		for i := range len(c.s) + 1 {
			wantText(t, c.s[:i])
			for j := range len(bytes) {
				wantText(t, c.s[:i]+bytes[j:j+1]+c.s[i:])
				if i < len(c.s) {
					wantText(t, c.s[:i]+bytes[j:j+1]+c.s[i+1:])
				}
			}
			if i < len(c.s) {
				wantText(t, c.s[:i]+c.s[i+1:])
			}
		}
	}
}

// P1: no bytes make Parse panic or go on for ever. The seed is fixed, so that each run is the same.

func TestParseOfAnyBytes(t *testing.T) {
	r := rand.New(rand.NewSource(75))
	pieces := []string{"[", "[", "]", "]", ", ", ", ", "1", "-2", `"a"`, `"\n"`, "[]", "[1, 2]", `"`, "\\", " ", ",", "-", "\x00", "\xff", "#", "0", "cell", "$", "(", "=="}
	for range 50000 {
		var b strings.Builder
		for range r.Intn(14) {
			b.WriteString(pieces[r.Intn(len(pieces))])
		}
		wantText(t, b.String())
	}
}
