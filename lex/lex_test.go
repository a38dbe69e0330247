package lex_test

import (
	"strings"
	"testing"

	"onceweb/api"
	"onceweb/lex"
)

func name(at int, s string) api.Token     { return api.Token{Kind: api.TokName, At: at, Text: s} }
func key(at int, s string) api.Token      { return api.Token{Kind: api.TokKey, At: at, Text: s} }
func local(at int, s string) api.Token    { return api.Token{Kind: api.TokLocal, At: at, Text: s} }
func number(at int, n int) api.Token      { return api.Token{Kind: api.TokInt, At: at, Int: n} }
func text(at int, s string) api.Token     { return api.Token{Kind: api.TokText, At: at, Text: s} }
func mark(at int, s string) api.Token     { return api.Token{Kind: api.TokMark, At: at, Text: s} }
func list(l ...api.Token) []api.Token     { return l }
func fault(at int, c api.Errno) api.Fault { return api.Fault{At: at, Code: c} }

var keywords = strings.Fields("cell again tries base factor cap close fine fail panic if then else try wait let in item size")

var allMarks = strings.Fields("== ( ) [ ] , ; . = + - * & <")

// equal holds two lists of tokens against each other; nil and empty are the same.
func equal(a, b []api.Token) bool {
	if len(a) != len(b) {
		return false
	}
	for i := range a {
		if a[i] != b[i] {
			return false
		}
	}
	return true
}

func wantTokens(t *testing.T, s string, want []api.Token) {
	t.Helper()
	l, f := lex.Tokens(s)
	if f != (api.Fault{}) || !equal(l, want) {
		t.Errorf("Tokens(%.60q): %v, %v; want %v", s, l, f, want)
	}
}

func wantFault(t *testing.T, s string, want api.Fault) {
	t.Helper()
	l, f := lex.Tokens(s)
	if f != want || len(l) != 0 {
		t.Errorf("Tokens(%.60q): %d tokens, %v; want none, %v", s, len(l), f, want)
	}
}

// 1.1

func TestTokensOfExamples(t *testing.T) {
	wantTokens(t, "cell a = b+1;", list(key(0, "cell"), name(5, "a"), mark(7, "="), name(9, "b"), mark(10, "+"), number(11, 1), mark(12, ";")))
	wantTokens(t, "$x==12 # y", list(local(0, "x"), mark(2, "=="), number(4, 12)))
}

func TestTokensOfBlank(t *testing.T) {
	for _, s := range []string{"", " ", "\t\n\r ", "#", "# a $ \" ?", "#\n", "# a\n#b", " # \x00\xff\r still \n "} {
		wantTokens(t, s, nil)
	}
	wantTokens(t, "a#b\nc", list(name(0, "a"), name(4, "c")))
	wantTokens(t, "a#b\rc", list(name(0, "a")))
	wantTokens(t, "a # the end", list(name(0, "a")))
	wantTokens(t, "\"#\" #\"", list(text(0, "#")))
	wantTokens(t, "#\"\n1", list(number(3, 1)))
}

func TestTokensOfEachWord(t *testing.T) {
	for _, k := range keywords {
		wantTokens(t, " "+k, list(key(1, k)))
		wantTokens(t, "$"+k, list(local(0, k)))
		wantTokens(t, k+"_", list(name(0, k+"_")))
		wantTokens(t, k+"0", list(name(0, k+"0")))
	}
	wantTokens(t, "a_0z9_", list(name(0, "a_0z9_")))
	wantTokens(t, "cells cel", list(name(0, "cells"), name(6, "cel")))
	wantTokens(t, "$a_0$b", list(local(0, "a_0"), local(4, "b")))
}

func TestTokensOfEachMark(t *testing.T) {
	for _, m := range allMarks {
		wantTokens(t, m, list(mark(0, m)))
		wantTokens(t, "a"+m+"1", list(name(0, "a"), mark(1, m), number(1+len(m), 1)))
	}
	wantTokens(t, "===", list(mark(0, "=="), mark(2, "=")))
	wantTokens(t, "====", list(mark(0, "=="), mark(2, "==")))
	wantTokens(t, "= =", list(mark(0, "="), mark(2, "=")))
	wantTokens(t, "<=", list(mark(0, "<"), mark(1, "=")))
}

func TestTokensOfNumbers(t *testing.T) {
	wantTokens(t, "0", list(number(0, 0)))
	wantTokens(t, "-5", list(mark(0, "-"), number(1, 5)))
	wantTokens(t, "12ab", list(number(0, 12), name(2, "ab")))
	wantTokens(t, "9007199254740992", list(number(0, api.MaxInt)))
	for _, s := range []string{"012", "00", "01", "9007199254740993", "9007199254741000", "18446744073709551617", strings.Repeat("9", 5000), "0" + strings.Repeat("9", 5000)} {
		wantFault(t, s, fault(0, api.ErrNumber))
		wantFault(t, "a "+s+" ?", fault(2, api.ErrNumber))
	}
}

func TestTokensOfTexts(t *testing.T) {
	wantTokens(t, `""`, list(text(0, "")))
	wantTokens(t, `"a""b"`, list(text(0, "a"), text(3, "b")))
	wantTokens(t, `x"\\\"\n\x00\x7f\xff ~"y`, list(name(0, "x"), text(1, "\\\"\n\x00\x7f\xff ~"), name(23, "y")))
	for _, s := range wrongTexts {
		wantFault(t, s, fault(0, api.ErrQuote))
		wantFault(t, "ab "+s, fault(3, api.ErrQuote))
	}
}

func TestTokensThatBeginNone(t *testing.T) {
	begins := "abcdefghijklmnopqrstuvwxyz0123456789$\"()[],;.=+-*&<#\t\n\r "
	for c := 0; c < 256; c++ {
		s := string([]byte{byte(c)})
		if strings.Contains(begins, s) {
			continue
		}
		wantFault(t, s, fault(0, api.ErrToken))
		wantFault(t, "a1 "+s+"a", fault(3, api.ErrToken))
	}
	wantFault(t, "aB", fault(1, api.ErrToken))
	for _, s := range []string{"$", "$ x", "$1", "$_", "$$x", "$\"x\"", "$A", "$#\nx"} {
		wantFault(t, s, fault(0, api.ErrToken))
		wantFault(t, "1 "+s, fault(2, api.ErrToken))
	}
}

func TestTokensAtTheirLimits(t *testing.T) {
	longest := strings.Repeat("a", api.MaxName)
	wantTokens(t, longest, list(name(0, longest)))
	wantTokens(t, "$"+longest, list(local(0, longest)))
	wantFault(t, longest+"a", fault(0, api.ErrLong))
	wantFault(t, " $"+longest+"_", fault(1, api.ErrLong))
	wantFault(t, "cell"+longest, fault(0, api.ErrLong))

	word := strings.Repeat("\x01", api.MaxWord)
	wantTokens(t, lex.Quote(word), list(text(0, word)))
	wantFault(t, " "+lex.Quote(word+"a"), fault(1, api.ErrLong))

	wantTokens(t, strings.Repeat(" ", api.MaxText-1)+"a", list(name(api.MaxText-1, "a")))
	wantFault(t, strings.Repeat(" ", api.MaxText)+"a", fault(0, api.ErrLong))
	wantFault(t, strings.Repeat(" ", api.MaxText+1), fault(0, api.ErrLong))
	wantFault(t, "?"+strings.Repeat(" ", api.MaxText), fault(0, api.ErrLong))
}

func TestTokensAtTheirNumber(t *testing.T) {
	full := strings.Repeat("(a", lex.MaxTokens/2)
	l, f := lex.Tokens(full + " # no more")
	if f != (api.Fault{}) || len(l) != lex.MaxTokens {
		t.Errorf("%d tokens, %v", len(l), f)
	}
	for _, s := range []string{")", "b", "cell", "$x", "7", `"a"`, "012", `"a`, "?", "$"} {
		wantFault(t, full+" "+s, fault(len(full)+1, api.ErrLong))
	}
	wantFault(t, "?"+full, fault(0, api.ErrToken))
}

func TestTwoErrorsAtOneToken(t *testing.T) {
	long := strings.Repeat("a", api.MaxWord+1)
	for _, s := range []string{`"` + long, `"` + long + `\x41"`, `"` + long + "\n\"", `"` + long + `\`} {
		wantFault(t, s, fault(0, api.ErrQuote))
	}
	wantFault(t, "0"+strings.Repeat("1", api.MaxWord), fault(0, api.ErrNumber))
}

func TestTheFirstFaultIsTold(t *testing.T) {
	wantFault(t, "a 01 ? \"", fault(2, api.ErrNumber))
	wantFault(t, "a ? 01 \"", fault(2, api.ErrToken))
	wantFault(t, "a \" ? 01", fault(2, api.ErrQuote))
	wantFault(t, strings.Repeat("b", 25)+" ?", fault(0, api.ErrLong))
}

// 1.2

// wrongTexts are none of the quoted form, and no beginning of theirs is.
var wrongTexts = []string{
	`"`, `"a`, `"\`, `"\"`, `"\x`, `"\x0`, `"\x00`, `"\n`,
	`"\x41"`, `"\x20"`, `"\x7e"`, `"\x22"`, `"\x5c"`, `"\x0a"`,
	`"\xC8"`, `"\xcG"`, `"\x0"`, `"\x"`, `"\x-1"`, `"\X00"`, `"\N"`,
	`"\t"`, `"\r"`, `"\a"`, `"\0"`, `"\'"`, `"\u0041"`, `"\ "`,
	"\"\n\"", "\"\t\"", "\"\r\"", "\"\x00\"", "\"\x1f\"", "\"\x7f\"", "\"\x80\"", "\"\xff\"", "\"é\"", "\"\\\n\"",
}

func TestQuote(t *testing.T) {
	for s, want := range map[string]string{
		"": `""`, "a\"\n\xc8": `"a\"\n\xc8"`, `\`: `"\\"`, "\\n": `"\\n"`, " ~": `" ~"`, "\x1f\x7f": `"\x1f\x7f"`, "\t\r\x00": `"\x09\x0d\x00"`, "é": `"\xc3\xa9"`, "'#$": `"'#$"`,
	} {
		if q := lex.Quote(s); q != want {
			t.Errorf("Quote(%q): %s, want %s", s, q, want)
		}
		if u, ok := lex.Unquote(want); !ok || u != s {
			t.Errorf("Unquote(%s): %q, %v; want %q", want, u, ok, s)
		}
	}
}

func TestUnquoteOfWrongOnes(t *testing.T) {
	wrong := append([]string{"", "a", `a"`, `"a`, `"a" `, ` "a"`, `"a""b"`, `"""`, `"a"b`, `'a'`, "`a`", `\"a\"`}, wrongTexts...)
	for _, s := range wrong {
		if u, ok := lex.Unquote(s); ok || u != "" {
			t.Errorf("Unquote(%q): %q, %v", s, u, ok)
		}
	}
}

// 1.3

func TestIsName(t *testing.T) {
	longest := strings.Repeat("z", api.MaxName)
	for _, s := range []string{"a", "z", "x_1", "a_", "a0", "cells", "cel", "i", longest} {
		if !lex.IsName(s) {
			t.Errorf("IsName(%q): false", s)
		}
	}
	for _, s := range []string{"", "A", "aB", "_a", "_", "1a", "0", "$a", "a b", " a", "a ", "a\n", "a-b", "é", "aé", "a\x00", longest + "z"} {
		if lex.IsName(s) {
			t.Errorf("IsName(%q): true", s)
		}
	}
	for _, k := range keywords {
		if lex.IsName(k) {
			t.Errorf("IsName(%q): true", k)
		}
	}
}

func TestIsKey(t *testing.T) {
	for _, k := range keywords {
		if !lex.IsKey(k) {
			t.Errorf("IsKey(%q): false", k)
		}
	}
	for _, s := range []string{"", "a", "Cell", "cell ", " cell", "cells", "cel", "i", "==", "gate", "cellagain", "cell again"} {
		if lex.IsKey(s) {
			t.Errorf("IsKey(%q): true", s)
		}
	}
}

func TestNumber(t *testing.T) {
	for s, want := range map[string]int{"0": 0, "7": 7, "10": 10, "12": 12, "9007199254740991": api.MaxInt - 1, "9007199254740992": api.MaxInt} {
		if n, ok := lex.Number(s); !ok || n != want {
			t.Errorf("Number(%q): %d, %v", s, n, ok)
		}
	}
	for _, s := range []string{"", "00", "007", "01", "+5", "-0", "-1", "1 ", " 1", "1_0", "0x1", "1.", "1e3", "a", "1a", "٣", "9007199254740993", "9007199254740992a", "10000000000000000", "18446744073709551616", "18446744073709551617", strings.Repeat("9", 100000)} {
		if n, ok := lex.Number(s); ok || n != 0 {
			t.Errorf("Number(%.40q): %d, %v", s, n, ok)
		}
	}
}

// 1.4

func TestLay(t *testing.T) {
	for _, c := range []struct {
		l    []api.Token
		want string
	}{
		{nil, ""},
		{list(), ""},
		{list(name(0, "a")), "a"},
		{list(local(9, "x"), mark(-4, "=="), number(0, 12)), "$x == 12"},
		{list(key(0, "cell"), local(0, "cell"), text(0, "a\"\n\xc8"), number(0, 0), number(0, api.MaxInt)), `cell $cell "a\"\n\xc8" 0 9007199254740992`},
		{list(mark(0, "="), mark(0, "="), mark(0, "("), text(0, "")), `= = ( ""`},
	} {
		if s, e := lex.Lay(c.l); s != c.want || e != api.OK {
			t.Errorf("Lay(%v): %q, %v; want %q", c.l, s, e, c.want)
		}
	}
}

func TestLayOfWrongOnes(t *testing.T) {
	wrong := []api.Token{
		{}, {Kind: -1}, {Kind: 7, Text: "a"}, {Kind: 0, Text: "a"}, {Kind: 1 << 40},
		name(0, ""), name(0, "cell"), name(0, "A"), name(0, "a b"), name(0, "$a"), name(0, strings.Repeat("a", api.MaxName+1)), {Kind: api.TokName, Text: "a", Int: 1},
		key(0, ""), key(0, "a"), key(0, "cell "), {Kind: api.TokKey, Text: "cell", Int: -1},
		local(0, ""), local(0, "$x"), local(0, "1"), local(0, strings.Repeat("a", api.MaxName+1)), {Kind: api.TokLocal, Text: "a", Int: 1},
		number(0, -1), number(0, api.MaxInt+1), {Kind: api.TokInt, Int: 1, Text: "1"}, {Kind: api.TokInt, Text: "0"},
		text(0, strings.Repeat("a", api.MaxWord+1)), {Kind: api.TokText, Text: "a", Int: 1},
		mark(0, ""), mark(0, "==="), mark(0, "<="), mark(0, "$"), mark(0, "a"), mark(0, "= "), {Kind: api.TokMark, Text: "=", Int: 1},
	}
	for _, w := range wrong {
		for _, l := range [][]api.Token{list(w), list(name(0, "a"), w), list(w, name(0, "a"))} {
			if s, e := lex.Lay(l); s != "" || e != api.ErrShape {
				t.Errorf("Lay of %v: %q, %v", w, s, e)
			}
		}
	}
}

func TestLayAtItsLimits(t *testing.T) {
	many := make([]api.Token, lex.MaxTokens+1)
	for i := range many {
		many[i] = mark(0, "(")
	}
	s, e := lex.Lay(many[:lex.MaxTokens])
	if want := strings.Repeat("( ", lex.MaxTokens); s+" " != want || e != api.OK {
		t.Errorf("%d bytes, %v", len(s), e)
	}
	if s, e = lex.Lay(many); s != "" || e != api.ErrLong {
		t.Errorf("one more: %d bytes, %v", len(s), e)
	}
	many[0] = api.Token{}
	if s, e = lex.Lay(many); s != "" || e != api.ErrLong {
		t.Errorf("one more, the first wrong: %d bytes, %v", len(s), e)
	}
	word, longest := strings.Repeat("\xff", api.MaxWord), strings.Repeat("a", api.MaxName)
	if s, e = lex.Lay(list(text(0, word), name(0, longest), local(0, longest))); s != lex.Quote(word)+" "+longest+" $"+longest || e != api.OK {
		t.Errorf("longest: %d bytes, %v", len(s), e)
	}
}
