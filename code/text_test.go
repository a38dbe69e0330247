package code_test

import (
	"slices"
	"strconv"
	"strings"
	"testing"

	"onceweb/api"
	"onceweb/code"
)

// wantFault asks for a fault, and for nothing else.
func wantFault(t *testing.T, s string, want api.Fault) {
	t.Helper()
	if c, f := code.Parse(s); f != want || len(c) != 0 {
		t.Errorf("Parse(%q): %s, %v; want %v", brief(s), brief(c), f, want)
	}
}

// wantText asks whether c has that text, and that text that code.
func wantText(t *testing.T, c api.Code, want string) {
	t.Helper()
	if s, e := code.Print(c); e != api.OK || s != want {
		t.Errorf("Print(%s): %q, %v; want %q", brief(c), brief(s), e, brief(want))
	}
	if d, f := code.Parse(want); f != (api.Fault{}) || !slices.Equal(d, c) {
		t.Errorf("Parse(%q): %s, %v; want %s", brief(want), brief(d), f, brief(c))
	}
}

// formed are instructions at the place 2 of 4, and their lines.
func formed() map[string]api.Instr {
	m := map[string]api.Instr{}
	for op, word := range opWords {
		if word != "halt" && word != "do" && word != "text" && word != "force" && word != "gate" {
			least, most := mayHave(api.CInt + op)
			for _, n := range []int{least, most} {
				line := word
				if most > 0 {
					line += " " + strconv.Itoa(n)
				}
				m[line] = api.Instr{Op: api.CInt + op, A: n}
			}
		}
	}
	for at, word := range doWords {
		m["do "+word] = api.Instr{Op: api.CDo, A: api.XAdd + at}
	}
	for _, name := range []string{"a", "x_1", "cells", longName} {
		m["force "+name] = api.Instr{Op: api.CForce, Text: name}
		m["gate "+name] = api.Instr{Op: api.CGate, Text: name}
	}
	for quoted, text := range map[string]string{`""`: "", `"a"`: "a", `"a b"`: "a b", `" "`: " ", `"\n"`: "\n", `"\""`: "\"", `"\\"`: "\\", `"\x00\xff"`: "\x00\xff", `"\xc3\xa9"`: "é", `"int 1"`: "int 1", `"\\n"`: "\\n", `"` + longText + `"`: longText} {
		m["text "+quoted] = api.Instr{Op: api.CText, Text: text}
	}
	m["int 0"], m["int -1"], m["make 1"], m["int 10"] = api.Instr{Op: api.CInt}, api.Instr{Op: api.CInt, A: -1}, api.Instr{Op: api.CMake, A: 1}, api.Instr{Op: api.CInt, A: 10}
	return m
}

// 9.2

func TestLinesThereAndBack(t *testing.T) {
	for line, in := range formed() {
		wantText(t, alone(in), "int 1\njump 3\n"+line+"\nhalt\n")
	}
	wantText(t, codeOf("try 6; gate g; force a; past; done; jump 7; int -5; keep 0; load 0; leave 0; do size; make 1; halt"), "try 6\ngate g\nforce a\npast\ndone\njump 7\nint -5\nkeep 0\nload 0\nleave 0\ndo size\nmake 1\nhalt\n")
	wantText(t, codeOf(`force a; else 4; text "x"; fail; text "y"; panic; halt`), "force a\nelse 4\ntext \"x\"\nfail\ntext \"y\"\npanic\nhalt\n")
}

// noLines are lines that are almost instructions'.
func noLines() []string {
	l := []string{
		"", " ", "int", "int ", "int  1", " int 1", "int 1 ", "int\t1", "int 1\t", "int 1\r", "int1", "Int 1", "INT 1", "in 1", "ints 1", "int 1 2", "int 1;", "int 1 # one", "# int 1", "int +1", "int 01", "int 00", "int -0", "int -01", "int - 1", "int --1", "int -", "int +", "int 1.0", "int 1e3", "int 0x1", "int 1_0", "int a", "int \"1\"", "int 9007199254740993", "int -9007199254740993", "int 99999999999999999999999999", "int 18446744073709551617", "int -9223372036854775808", "int ١",
		"text", "text ", "text a", `text  "a"`, `text "a" `, `text "a"b`, `text"a"`, `text "a`, `text a"`, `text "`, `text 'a'`, "text `a`", `text "\x61"`, `text "\a"`, `text "\xC3"`, `text "\xc"`, `text "\t"`, "text \"\t\"", "text \"é\"", "text \"\x7f\"", `text "\u00e9"`, `text "a" "b"`, `text """`, `text "\"`, `text "` + longText + `x"`, `text "` + longText + `\n"`, `text ""a`,
		"force", "force ", "force  a", "force a ", "force A", "force 1", "force a b", "force a-b", "force $a", "force \"a\"", "force _a", "force a.", "force " + longName + "z", "force é", "gate", "gate ", "gate  g", "gate g ", "gate G", "gate \"g\"", "gate g g", "gate " + longName + "z", "wait g",
		"load", "load ", "load -1", "load 256", "load +0", "load 00", "load 01", "load  0", "load 0 ", "load a", "load -0", "keep", "keep -1", "keep 256", "keep 00", "keep 1 ", "leave", "leave -1", "leave 256", "leave 007", "make", "make -1", "make 257", "make +1", "make 01", "make 1 1",
		"do", "do ", "do  add", "do add ", "do Add", "do list", "do if", "do fail", "do panic", "do 6", "do try", "do let", "do plus", "do add sub", "do \"add\"", "do +", "do int", "add", "do sum",
		"else", "else 2", "else 1", "else 0", "else -1", "else +3", "else 03", "else  3", "else 3 ", "else a", "else 9007199254740993", "else 99999999999999999999999999", "jump", "jump 2", "jump 0", "jump -1", "jump -3", "jump +3", "jump 03", "jump 3 ", "jump 9007199254740993", "try", "try 2", "try 1", "try -1", "try +3", "try 03", "try 3 ", "try 9007199254740993",
		"done ", " done", "done 0", "done 1", "Done", "fail ", "fail \"x\"", "fail 0", "fail  ", "panic ", "panic \"x\"", "panic 1", "past ", "past 0", "past g", "past\r", "halt ", "halt 0", "halt\r", "halt 1", "halts", "nothing", "pass", "push 1", "pop", "int\x001", "int 1\x00",
	}
	for _, s := range keywords {
		l = append(l, "force "+s, "gate "+s)
	}
	return l
}

func TestLinesThatAreNone(t *testing.T) {
	for _, line := range noLines() {
		wantFault(t, "int 1\njump 3\n"+line+"\nhalt\n", api.Fault{At: 2, Code: api.ErrForm})
		wantFault(t, "int 1\njump 3\n"+line+"\nint +1\n", api.Fault{At: 2, Code: api.ErrForm})
		if line != "" {
			wantFault(t, "int 1\njump 3\n"+line, api.Fault{At: 2, Code: api.ErrForm})
		}
		// It is told ahead of what makes the code unsound.
		wantFault(t, "past\ndo add\n"+line+"\nhalt\nhalt\n", api.Fault{At: 2, Code: api.ErrForm})
	}
}

func TestLinesWithoutALineFeed(t *testing.T) {
	for line := range formed() {
		wantFault(t, "int 1\njump 3\n"+line, api.Fault{At: 2, Code: api.ErrForm})
	}
	wantFault(t, "halt", api.Fault{Code: api.ErrForm})
	wantFault(t, "int 1", api.Fault{Code: api.ErrForm})
	wantFault(t, "int 1\nhalt", api.Fault{At: 1, Code: api.ErrForm})
	wantFault(t, "int 1\nhalt\n\n", api.Fault{At: 2, Code: api.ErrForm})
	wantFault(t, "int 1\nhalt\n ", api.Fault{At: 2, Code: api.ErrForm})
	wantFault(t, "\nint 1\nhalt\n", api.Fault{Code: api.ErrForm})
	wantFault(t, "int 1\n\nhalt\n", api.Fault{At: 1, Code: api.ErrForm})
	wantFault(t, "int 1\r\nhalt\r\n", api.Fault{Code: api.ErrForm})
	wantFault(t, "int 1; halt\n", api.Fault{Code: api.ErrForm})
	wantFault(t, "text \"a\nb\"\nhalt\n", api.Fault{Code: api.ErrForm})
}

func TestTextsOfUnsoundCodes(t *testing.T) {
	for _, s := range []string{
		"", "halt\n", "int 1\n", "halt\nhalt\n", "int 1\nhalt\nhalt\n", "int 1\nhalt\nint 1\n", "do add\nhalt\n", "int 1\nint 2\nhalt\n", "load 0\nhalt\n", "load 255\nhalt\n", "make 256\nhalt\n", "past\nhalt\n", "int 1\nkeep 0\nhalt\n",
		// In a line any number behind its own may stand; in a code it must be one of its places.
		"int 1\njump 3\nhalt\n", "int 1\njump 9007199254740992\nhalt\n", "int 1\njump 3\njump 4\nhalt\n", "int 1\nelse 1024\nint 1\nhalt\n", "try 5\nint 1\ndone\njump 5\nhalt\n", "try 9007199254740992\nint 1\nhalt\n", "int 1\njump 3\nelse 9007199254740992\nhalt\n",
	} {
		wantFault(t, s, api.Fault{Code: api.ErrCode})
	}
	// A jump at a line that is behind another one's place.
	wantFault(t, "int 1\njump 1\nhalt\n", api.Fault{At: 1, Code: api.ErrForm})
	wantFault(t, "int 1\nint 1\nelse 2\nhalt\n", api.Fault{At: 2, Code: api.ErrForm})
	wantFault(t, "try 0\nhalt\n", api.Fault{Code: api.ErrForm})
	wantFault(t, "jump 1\n", api.Fault{Code: api.ErrCode})
}

func TestTooManyLines(t *testing.T) {
	full := sums(code.MaxCode)
	s, e := code.Print(full)
	if e != api.OK {
		t.Fatalf("Print: %v", e)
	}
	wantText(t, full, s)
	for _, more := range []string{"halt\n", "halt", "\n", " ", "nothing\n", "int 1\nint 1\n", "x", "\n\n\n"} {
		wantFault(t, s+more, api.Fault{At: code.MaxCode, Code: api.ErrLong})
	}
	ones := func(n int) string { return strings.Repeat("int 1\n", n) }
	wantFault(t, ones(code.MaxCode), api.Fault{Code: api.ErrCode})
	wantFault(t, ones(code.MaxCode+1), api.Fault{At: code.MaxCode, Code: api.ErrLong})
	wantFault(t, ones(2*code.MaxCode), api.Fault{At: code.MaxCode, Code: api.ErrLong})
	// The first thing that is wrong is told.
	wantFault(t, ones(3)+"int\n"+ones(2*code.MaxCode), api.Fault{At: 3, Code: api.ErrForm})
	wantFault(t, ones(code.MaxCode-1)+"int\n"+ones(2), api.Fault{At: code.MaxCode - 1, Code: api.ErrForm})
	wantFault(t, ones(code.MaxCode-1)+"int 1", api.Fault{At: code.MaxCode - 1, Code: api.ErrForm})
	wantFault(t, strings.Repeat("\n", 2*code.MaxCode), api.Fault{Code: api.ErrForm})
}

// sized is a sound code whose text has so many bytes, from 258566 on.
func sized(size int) api.Code {
	long := api.Instr{Op: api.CText, Text: longText}
	c := slices.Repeat(api.Code{long}, 63)
	rest := size - 63*len("text \"\"\n"+longText) - len("text \"\"\nmake 64\nhalt\n")
	return append(c, api.Instr{Op: api.CText, Text: strings.Repeat("y", rest)}, api.Instr{Op: api.CMake, A: 64}, halt)
}

func TestTooLongTexts(t *testing.T) {
	const most = 4 * api.MaxText
	s, e := code.Print(sized(most))
	if e != api.OK || len(s) != most {
		t.Fatalf("the test's own code is off: %d bytes, %v", len(s), e)
	}
	wantText(t, sized(most), s)
	s, e = code.Print(sized(most + 1))
	if e != api.OK || len(s) != most+1 {
		t.Errorf("Print of a code whose text is not read: %d bytes, %v", len(s), e)
	}
	wantFault(t, s, api.Fault{Code: api.ErrLong})
	wantFault(t, strings.Repeat("x", most), api.Fault{Code: api.ErrForm})
	wantFault(t, strings.Repeat("x", most+1), api.Fault{Code: api.ErrLong})
	wantFault(t, "int 1\n"+strings.Repeat("\n", most-6), api.Fault{At: 1, Code: api.ErrForm})
	wantFault(t, "int 1\n"+strings.Repeat("\n", most-5), api.Fault{Code: api.ErrLong})
}
