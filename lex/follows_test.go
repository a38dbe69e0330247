package lex_test

import (
	"math/rand"
	"regexp"
	"slices"
	"strings"
	"testing"

	"onceweb/api"
	"onceweb/lex"
)

// every calls f with each text of at most most letters of that alphabet.
func every(alphabet string, most int, f func(s string)) {
	var walk func(s string)
	walk = func(s string) {
		f(s)
		if len(s) == most {
			return
		}
		for i := range len(alphabet) {
			walk(s + alphabet[i:i+1])
		}
	}
	walk("")
}

// alphabet has a byte of every kind that the chapter tells apart.
const alphabet = "an_x01$\"\\=+# \n?"

var (
	blankForm = regexp.MustCompile(`^(?:[\t\n\r ]|#[^\n]*(?:\n|\z))+`)
	wordForm  = regexp.MustCompile(`^\$?[a-z][a-z0-9_]*`)
	digitForm = regexp.MustCompile(`^[0-9]+`)
	textForm  = regexp.MustCompile(`^"(?:[ !#-\[\]-~]|\\["\\n]|\\x(?:0[0-9b-f]|1[0-9a-f]|7f|[89a-f][0-9a-f]))*"`)
	markForm  = regexp.MustCompile(`^(?:==|[()\[\],;.=+*&<-])`)
)

// slowTokens is the chapter again, by forms instead of loops (for short texts of ASCII bytes).
func slowTokens(s string) ([]api.Token, api.Fault) {
	var l []api.Token
	for at := 0; at < len(s); {
		r := s[at:]
		if b := blankForm.FindString(r); b != "" {
			at += len(b)
			continue
		}
		w, d, q, m := wordForm.FindString(r), digitForm.FindString(r), textForm.FindString(r), markForm.FindString(r)
		switch {
		case strings.HasPrefix(w, "$"):
			l = append(l, local(at, w[1:]))
		case w != "" && slices.Contains(keywords, w):
			l = append(l, key(at, w))
		case w != "":
			l = append(l, name(at, w))
		case len(d) > 1 && d[0] == '0':
			return nil, fault(at, api.ErrNumber)
		case d != "":
			n := 0
			for _, c := range d {
				n = 10*n + int(c-'0')
			}
			l = append(l, number(at, n))
		case q != "":
			u, _ := lex.Unquote(q)
			l = append(l, text(at, u))
		case r[0] == '"':
			return nil, fault(at, api.ErrQuote)
		case m != "":
			l = append(l, mark(at, m))
		default:
			return nil, fault(at, api.ErrToken)
		}
		at += len(w) + len(d) + len(q) + len(m)
	}
	return l, api.Fault{}
}

func TestTokensOfAllShortTexts(t *testing.T) {
	every(alphabet, 4, func(s string) {
		l, f := lex.Tokens(s)
		wl, wf := slowTokens(s)
		if f != wf || !equal(l, wl) {
			t.Errorf("Tokens(%q): %v, %v; want %v, %v", s, l, f, wl, wf)
		}
	})
}

// 1.5

// bare is the tokens without their places.
func bare(l []api.Token) []api.Token {
	b := slices.Clone(l)
	for i := range b {
		b[i].At = 0
	}
	return b
}

func wantBack(t *testing.T, l []api.Token) {
	t.Helper()
	s, e := lex.Lay(l)
	back, f := lex.Tokens(s)
	if e != api.OK || f != (api.Fault{}) || !equal(bare(back), bare(l)) {
		t.Errorf("%v laid: %q, %v; back: %v, %v", l, s, e, back, f)
	}
}

// samples has a token of each kind, and more where kinds could grow together.
func samples() []api.Token {
	l := list(name(0, "a"), name(0, "n1_"), key(0, "in"), local(0, "in"), local(0, "x"), number(0, 0), number(0, 12), number(0, api.MaxInt), text(0, ""), text(0, "# \" $a\n\xff"))
	for _, m := range allMarks {
		l = append(l, mark(0, m))
	}
	return l
}

func TestTokensOfLay(t *testing.T) {
	for _, a := range samples() {
		for _, b := range samples() {
			wantBack(t, list(a, b))
		}
	}
	wantBack(t, samples())
	every(alphabet, 4, func(s string) {
		if l, f := lex.Tokens(s); f == (api.Fault{}) {
			wantBack(t, l)
		}
	})
}

func TestUnquoteOfQuote(t *testing.T) {
	for i := range 1 << 16 {
		for _, s := range []string{string([]byte{byte(i >> 8), byte(i)}), string([]byte{byte(i)})} {
			if u, ok := lex.Unquote(lex.Quote(s)); !ok || u != s {
				t.Fatalf("%q quoted and back: %q, %v", s, u, ok)
			}
		}
	}
	long := strings.Repeat("\\\"\n\x00ab", api.MaxText)
	if u, ok := lex.Unquote(lex.Quote(long)); !ok || u != long {
		t.Errorf("a long text quoted and back: %d bytes, %v", len(u), ok)
	}
}

func TestQuoteOfUnquote(t *testing.T) {
	taken := 0
	every("\"\\nx04aA \n", 6, func(s string) {
		u, ok := lex.Unquote(s)
		if ok && lex.Quote(u) != s {
			t.Errorf("Unquote(%q): %q, whose form is %q", s, u, lex.Quote(u))
		}
		if !ok && u != "" {
			t.Errorf("Unquote(%q): %q beside false", s, u)
		}
		if ok {
			taken++
		}
		if ok != (textForm.FindString(s) == s && s != "") {
			t.Errorf("Unquote(%q): %v", s, ok)
		}
	})
	if taken == 0 {
		t.Error("none was taken")
	}
}

// 1.6

// grow tells whether two tokens without blank between them are read as others.
func grow(a, b api.Token) bool {
	word := func(k int) bool { return k == api.TokName || k == api.TokKey || k == api.TokLocal }
	switch {
	case word(a.Kind):
		return b.Kind == api.TokName || b.Kind == api.TokKey || b.Kind == api.TokInt
	case a.Kind == api.TokInt:
		return b.Kind == api.TokInt
	}
	return a.Kind == api.TokMark && a.Text == "=" && b.Kind == api.TokMark && b.Text[0] == '='
}

func TestBlankChangesPlacesAlone(t *testing.T) {
	for _, a := range samples() {
		for _, b := range samples() {
			s, _ := lex.Lay(list(a))
			r, _ := lex.Lay(list(b))
			for _, blank := range []string{"", " ", "\t", "\n", "\r", "#\n", " # a \" b\n\n\t", "#?\r$\n"} {
				if blank == "" && grow(a, b) {
					continue
				}
				front, back := "#f\n ", "\n#"
				l, f := lex.Tokens(front + s + blank + r + back)
				want := list(a, b)
				want[0].At, want[1].At = len(front), len(front)+len(s)+len(blank)
				if f != (api.Fault{}) || !equal(l, want) {
					t.Errorf("%q: %v, %v; want %v", s+blank+r, l, f, want)
				}
			}
		}
	}
}

func TestPlacesRiseAndBlankLiesBetween(t *testing.T) {
	every(alphabet, 4, func(s string) {
		l, f := lex.Tokens(s)
		if f != (api.Fault{}) {
			return
		}
		end := 0
		for _, k := range l {
			written, _ := lex.Lay(list(k))
			if k.At < end || !strings.HasPrefix(s[k.At:], written) || !isBlank(s[end:k.At]) {
				t.Errorf("%q: %v does not stand there", s, k)
				return
			}
			end = k.At + len(written)
		}
		if !isBlank(s[end:]) {
			t.Errorf("%q: more than blank behind the tokens", s)
		}
	})
}

func isBlank(s string) bool { return blankForm.FindString(s) == s }

// 1.7

func TestBeginnings(t *testing.T) {
	for _, s := range []string{"cell a = b+1; # c d\n \"x # y\" $z\t12 == ( cell", "a\nb\rc#d"} {
		whole, f := lex.Tokens(s)
		if f != (api.Fault{}) {
			t.Fatal(f)
		}
		for i := range len(s) {
			if !strings.Contains("\t\n\r #", s[i:i+1]) || insideText(whole, i) {
				continue
			}
			part, f := lex.Tokens(s[:i])
			if f != (api.Fault{}) || len(part) > len(whole) || !equal(part, whole[:len(part)]) {
				t.Errorf("%q: %v, %v", s[:i], part, f)
			}
		}
	}
}

// insideText tells whether the place i is one of a text's bytes.
func insideText(l []api.Token, i int) bool {
	for _, k := range l {
		if k.Kind == api.TokText && i > k.At && i < k.At+len(lex.Quote(k.Text)) {
			return true
		}
	}
	return false
}

// R3: an answer is new memory, and what is handed in is left as it is.

func TestAnswersAreNew(t *testing.T) {
	first, _ := lex.Tokens("a b c")
	second, _ := lex.Tokens("a b c")
	first[0].Text = "z"
	_ = append(first[:1], name(9, "z"))
	if !equal(second, list(name(0, "a"), name(2, "b"), name(4, "c"))) {
		t.Errorf("an answer shares memory: %v", second)
	}
}

func TestLayLeavesItsList(t *testing.T) {
	given := append(samples(), api.Token{}, api.Token{Kind: 9})
	kept := slices.Clone(given)
	lex.Lay(given)
	lex.Lay(given[:len(given)-2])
	if !equal(given, kept) {
		t.Errorf("the list was changed: %v", given)
	}
}

// P1: no text makes a call panic or go on for ever. The seed is fixed, so that each run is the same.

func TestAnyBytes(t *testing.T) {
	r := rand.New(rand.NewSource(1))
	pieces := []string{"a", "cell", "$", "\"", "\\", "\\x", "\\n", "7f", "0", "12", "=", "#", "\n", " ", "\x00", "\xff", "é", "(", strings.Repeat("q", 30), strings.Repeat("9", 30)}
	for range 20000 {
		var b strings.Builder
		for range r.Intn(30) {
			b.WriteString(pieces[r.Intn(len(pieces))])
		}
		s := b.String()
		l, f := lex.Tokens(s)
		switch {
		case f != (api.Fault{}) && (len(l) != 0 || f.At < 0 || f.At >= len(s) || f.Code == api.OK):
			t.Fatalf("%q: %v, %v", s, l, f)
		case f == (api.Fault{}):
			wantBack(t, l)
		}
		lex.Number(s)
		if lex.IsName(s) && lex.IsKey(s) {
			t.Fatalf("%q is both", s)
		}
		if u, ok := lex.Unquote(lex.Quote(s)); !ok || u != s {
			t.Fatalf("%q quoted and back: %q", s, u)
		}
	}
}
