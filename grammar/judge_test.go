package grammar_test

import (
	"math/rand"
	"reflect"
	"slices"
	"strconv"
	"strings"
	"testing"

	"onceweb/api"
	"onceweb/grammar"
)

// language is the chapter's again, as data: what a symbol (a word with a capital) may be replaced by; but lets and locals see ways.
var language = map[string][]string{
	"All":     {"", "One All"},
	"One":     {"cell name = E Again Tries Close ;"},
	"Again":   {"", "again"},
	"Tries":   {"", "tries int base int factor int cap int"},
	"Close":   {"", "close fine", "close fail text", "close panic text"},
	"E":       {"if E then E else E", "try E else E", "wait name . E", "Sum Less"},
	"Less":    {"", "< Sum", "== Sum"},
	"Sum":     {"Product More"},
	"More":    {"", "+ Product More", "- Product More", "& Product More"},
	"Product": {"Primary Times"},
	"Times":   {"", "* Primary Times"},
	"Primary": {"int", "- above", "text", "name", "Local", "( E )", "[ List ]", "fail ( E )", "panic ( E )", "size ( E )", "item ( E , E )"},
	"List":    {"", "E Comma"},
	"Comma":   {"", ", E Comma"},
}

// asked keeps what ways was asked for: it is asked for the same over and over.
var asked = map[string][]string{}

// ways is what a symbol may be replaced by. Behind its : stand the locals that are bound there, each of one letter; a * stands for all that there could be.
func ways(symbol string) []string {
	if l, ok := asked[symbol]; ok {
		return l
	}
	name, bound, _ := strings.Cut(symbol, ":")
	l := within(language[name], bound)
	switch name {
	case "E":
		l = append(l, waysOfLet(bound)...)
	case "Local":
		l = waysOfLocal(bound)
	}
	asked[symbol] = l
	return l
}

func waysOfLet(bound string) []string {
	if bound == "*" {
		return []string{"let local = E:* in E:*"}
	}
	var l []string
	for _, x := range []string{"x", "y"} {
		l = append(l, "let $"+x+" = E:"+bound+" in E:"+strings.ReplaceAll(bound, x, "")+x)
	}
	return l
}

func waysOfLocal(bound string) []string {
	if bound == "*" {
		return []string{"local"}
	}
	var l []string
	for _, x := range bound {
		l = append(l, "$"+string(x))
	}
	return l
}

// within is ways, in which those locals are bound.
func within(l []string, bound string) []string {
	var all []string
	for _, way := range l {
		words := strings.Fields(way)
		for i, word := range words {
			if isSymbol(word) {
				words[i] = word + ":" + bound
			}
		}
		all = append(all, strings.Join(words, " "))
	}
	return all
}

func isSymbol(word string) bool { return word != "" && word[0] >= 'A' && word[0] <= 'Z' }

// fits tells whether a token may stand where the word of a way stands.
func fits(word, token string) bool {
	isNumber := token[0] >= '0' && token[0] <= '9'
	switch word {
	case "int":
		return isNumber
	case "above":
		return isNumber && token != "0"
	case "text":
		return token[0] == '"'
	case "name":
		return token[0] >= 'a' && token[0] <= 'z' && !slices.Contains(keywords, token)
	case "local":
		return token[0] == '$' && !slices.Contains(keywords, token[1:])
	}
	return word == token
}

// eachFront calls f with the first word of each row of words that rests can be replaced by, and with what stands behind it; both are empty where nothing must come.
func eachFront(rests []string, f func(word, rest string)) {
	for _, s := range rests {
		word, rest, _ := strings.Cut(s, " ")
		if !isSymbol(word) {
			f(word, rest)
			continue
		}
		for _, way := range ways(word) {
			eachFront([]string{strings.TrimSpace(way + " " + rest)}, f)
		}
	}
}

// state is what may come behind tokens: with all locals bound by the lets around them, and with all locals bound.
type state struct{ strict, free []string }

func begin(start string) state { return state{[]string{start + ":"}, []string{start + ":*"}} }

func step(rests []string, token string) []string {
	var l []string
	eachFront(rests, func(word, rest string) {
		if word != "" && fits(word, token) && !slices.Contains(l, rest) {
			l = append(l, rest)
		}
	})
	return l
}

// next is the state behind one token more, and what is wrong with it.
func (s state) next(token string) (state, api.Errno) {
	s = state{step(s.strict, token), step(s.free, token)}
	switch {
	case len(s.free) == 0:
		return s, api.ErrSyntax
	case len(s.strict) == 0:
		return s, api.ErrLocal
	}
	return s, api.OK
}

func (s state) mayEnd() bool {
	may := false
	eachFront(s.strict, func(word, _ string) { may = may || word == "" })
	return may
}

// judge is the number of the token that is wrong first, and how. (Beyond the language: names that are there twice, of All alone; policies.)
func judge(start string, tokens []string) (int, api.Errno) {
	s := begin(start)
	for i, token := range tokens {
		var code api.Errno
		if s, code = s.next(token); code != api.OK {
			return i, code
		}
		if at, code := beyond(start, tokens[:i+1]); code != api.OK {
			return at, code
		}
	}
	if !s.mayEnd() {
		return len(tokens), api.ErrSyntax
	}
	return 0, api.OK
}

// beyond is what is wrong, where the last token is come to, that the language does not say.
func beyond(start string, tokens []string) (int, api.Errno) {
	last := len(tokens) - 1
	if start == "All" && last > 0 && tokens[last-1] == "cell" {
		for i := range last - 1 {
			if tokens[i] == "cell" && tokens[i+1] == tokens[last] {
				return last, api.ErrTwice
			}
		}
	}
	for i := last; tokens[last] == ";" && tokens[i] != "cell"; i-- {
		if tokens[i] == "tries" && !isPolicy(tokens[i:]) {
			return i, api.ErrPolicy
		}
	}
	return 0, api.OK
}

// isPolicy tells whether the numbers behind tries are right.
func isPolicy(tokens []string) bool {
	var n [4]int
	for i := range n {
		n[i], _ = strconv.Atoi(tokens[2*i+1])
	}
	return n == [4]int{} || n[0] >= 1 && n[0] <= 64 && n[1] >= 0 && n[1] <= 1<<30 && n[2] >= 1 && n[2] <= 16 && n[3] >= n[1] && n[3] <= api.MaxTick
}

// wantJudged asks of a reader that it tells what the judge does, whatever is blank between the tokens (ahead of each, and behind all).
func wantJudged(t *testing.T, start string, tokens []string, blank func(i int) string, at int, code api.Errno) {
	t.Helper()
	var s strings.Builder
	want := api.Fault{Code: code}
	for i := range len(tokens) + 1 {
		s.WriteString(blank(i))
		if i == at && code != api.OK {
			want.At = s.Len()
		}
		if i < len(tokens) {
			s.WriteString(tokens[i])
		}
	}
	if fault := faultOf(t, start, s.String()); fault != want {
		t.Fatalf("%s of %q: %v, want %v", start, s.String(), fault, want)
	}
}

// faultOf is the fault that the reader of that start tells; nothing else may be told beside it.
func faultOf(t *testing.T, start, s string) api.Fault {
	t.Helper()
	var fault api.Fault
	empty := false
	switch start {
	case "E":
		var e api.Expr
		e, fault = grammar.ReadExpr(s)
		empty = e == nil
	case "One":
		var p api.Provider
		p, fault = grammar.ReadOne(s)
		empty = reflect.DeepEqual(p, api.Provider{})
	case "All":
		var l []api.Provider
		l, fault = grammar.Read(s)
		empty = l == nil
	}
	if fault != fine && !empty {
		t.Errorf("%s of %q tells more than %v", start, s, fault)
	}
	return fault
}

// oneBlank stands between any two tokens alone, so that a token that lacks does so at the last one's end.
func oneBlank(tokens []string) func(i int) string {
	return func(i int) string {
		if i == 0 || i == len(tokens) {
			return ""
		}
		return " "
	}
}

// every is one token of each sort at least.
var every = append(strings.Fields(`0 7 "t" a $x $y $if ( ) [ ] , ; . = == + - * & <`), keywords...)

// eachViable calls f with each row of tokens that begins with these, has at most deep more, and all but the last of which may stand where they do; and with what is wrong with the last one.
func eachViable(s state, tokens []string, deep int, f func(s state, tokens []string, code api.Errno)) {
	if deep == 0 {
		return
	}
	for _, token := range every {
		more := append(slices.Clone(tokens), token)
		then, code := s.next(token)
		f(then, more, code)
		if code == api.OK {
			eachViable(then, more, deep-1, f)
		}
	}
}

// 6.1 and 6.3

func TestAllShortExprs(t *testing.T) {
	right, wrong := 0, 0
	for _, ahead := range []string{"", "if a then", "let $x =", "let $x = a in", "[ a , (", "a + b *", "a <", "- 7 ==", "item ( a"} {
		s, tokens := begin("E"), strings.Fields(ahead)
		for _, token := range tokens {
			s, _ = s.next(token)
		}
		deep := 3
		if ahead == "" {
			deep = 4
		}
		eachViable(s, tokens, deep, func(s state, tokens []string, code api.Errno) {
			at := len(tokens) - 1
			if code != api.OK {
				wrong++
				// Whatever comes behind it.
				wantJudged(t, "E", append(tokens, ")", "$y"), oneBlank(nil), at, code)
			} else if !s.mayEnd() {
				at, code = len(tokens), api.ErrSyntax
			} else {
				right++
				wantBack(t, strings.Join(tokens, " "))
			}
			wantJudged(t, "E", tokens, oneBlank(tokens), at, code)
		})
	}
	if right < 500 || wrong < 10000 {
		t.Errorf("%d right ones, %d wrong ones", right, wrong)
	}
}

func TestAllShortProviders(t *testing.T) {
	for _, ahead := range []string{
		"", "cell a = 7", "cell a = let $x = a in $x", "cell a = 7 again", "cell a = if a then a else a tries 7 base", "cell a = 7 tries 7 base 7 factor 7", "cell a = 7 close", "cell b = 7 ; cell", "cell b = 7 again ; cell c = b tries 7 base 0 factor 7 cap 7",
	} {
		for _, start := range []string{"One", "All"} {
			s, tokens, viable := begin(start), strings.Fields(ahead), true
			for _, token := range tokens {
				var code api.Errno
				s, code = s.next(token)
				viable = viable && code == api.OK
			}
			if !viable {
				continue
			}
			eachViable(s, tokens, 3, func(_ state, tokens []string, _ api.Errno) {
				at, code := judge(start, tokens)
				wantJudged(t, start, tokens, oneBlank(tokens), at, code)
			})
		}
	}
}

// samples are right providers, by their tokens.
var samples = []string{
	`cell a = 7 ;`, `cell a = - 7 again ;`, `cell a = b tries 3 base 1 factor 2 cap 10 ;`, `cell a = b close fine ;`, `cell a = b again tries 0 base 0 factor 0 cap 0 close fail "" ;`,
	`cell a = if b < 3 then [ b , "x" ] else - 1 again tries 3 base 1 factor 2 cap 10 close fail "no" ;`,
	`cell a = try wait g . item ( [ ] , 0 ) * ( b - c ) else panic ( "oh" ) & fail ( size ( d ) ) close panic "cell" ;`,
	`cell a = let $x = b in let $y = $x + 1 in if $x == $y then ( let $x = $y in $x ) else $x ;`,
	`cell a = b ; cell b = [ a ] again ; cell c = a + b tries 1 base 7 factor 1 cap 7 close fine ;`,
	`cell a = if b then try c else if d then e else f else g ; cell d = 0 ;`,
}

// Each token left out, each one put in the place of another one, each one put between two, each end cut off, two changed for one another.
func TestSpoilt(t *testing.T) {
	codes := map[api.Errno]int{}
	look := func(tokens []string) {
		for _, start := range []string{"One", "All"} {
			at, code := judge(start, tokens)
			wantJudged(t, start, tokens, oneBlank(tokens), at, code)
			codes[code]++
		}
	}
	more := append([]string{"b", "65", "1099511627777"}, every...)
	for _, sample := range samples {
		tokens := strings.Fields(sample)
		look(tokens)
		for i := range tokens {
			look(tokens[:i])
			look(slices.Delete(slices.Clone(tokens), i, i+1))
			if i > 0 {
				turned := slices.Clone(tokens)
				turned[i], turned[i-1] = turned[i-1], turned[i]
				look(turned)
			}
			for _, token := range more {
				look(slices.Insert(slices.Clone(tokens), i, token))
				look(slices.Replace(slices.Clone(tokens), i, i+1, token))
			}
		}
		for _, token := range more {
			look(append(slices.Clone(tokens), token))
		}
	}
	for _, code := range []api.Errno{api.OK, api.ErrSyntax, api.ErrLocal, api.ErrPolicy, api.ErrTwice} {
		if codes[code] < 5 {
			t.Errorf("%v is told %d times", code, codes[code])
		}
	}
}

// Several things that are wrong at once: the first one is told.
func TestSpoiltTwice(t *testing.T) {
	r := rand.New(rand.NewSource(66))
	for range 20000 {
		tokens := strings.Fields(samples[r.Intn(len(samples))])
		for range 1 + r.Intn(3) {
			i := r.Intn(len(tokens))
			switch token := every[r.Intn(len(every))]; r.Intn(4) {
			case 0:
				tokens = slices.Insert(tokens, i, token)
			case 1:
				tokens[i] = token
			case 2:
				tokens = append(slices.Delete(tokens, i, i+1), ";")
			case 3:
				tokens = append(tokens, strings.Fields(samples[r.Intn(len(samples))])...)
			}
		}
		for _, start := range []string{"One", "All"} {
			at, code := judge(start, tokens)
			wantJudged(t, start, tokens, oneBlank(tokens), at, code)
		}
	}
}

// 6.4

func TestBlankMeansNothing(t *testing.T) {
	blanks := []string{" ", "\n", "\t", "\r", "\r\n", "   ", " # a comment\n", "#\n", "# \"cell ; $x\n#\n ", "\n\n\t"}
	r := rand.New(rand.NewSource(64))
	for _, sample := range samples {
		tokens := strings.Fields(sample)
		want, fault := grammar.Read(sample)
		if fault != fine {
			t.Fatalf("the test's own providers are off: %s: %v", sample, fault)
		}
		for _, blank := range blanks {
			wantSet(t, blank+strings.Join(tokens, blank)+blank, want...)
			wantSet(t, strings.Join(tokens, blank), want...)
		}
		wantSet(t, sample+" # the end", want...)
		wantSet(t, tight(tokens), want...)
		for range 300 {
			// A wrong one is as wrong, at its own place.
			spoilt := slices.Clone(tokens)
			if r.Intn(4) > 0 {
				spoilt[r.Intn(len(spoilt))] = every[r.Intn(len(every))]
			}
			some := make([]string, len(spoilt)+1)
			for i := range some {
				some[i] = blanks[r.Intn(len(blanks))]
			}
			for _, start := range []string{"One", "All"} {
				at, code := judge(start, spoilt)
				wantJudged(t, start, spoilt, func(i int) string { return some[i] }, at, code)
			}
		}
	}
}

// tight is the tokens with a blank only where two would grow together.
func tight(tokens []string) string {
	isWord := func(c byte) bool { return c == '_' || c >= 'a' && c <= 'z' || c >= '0' && c <= '9' }
	s := tokens[0]
	for _, token := range tokens[1:] {
		if last := s[len(s)-1]; isWord(last) && isWord(token[0]) || last == '=' && token[0] == '=' {
			s += " "
		}
		s += token
	}
	return s
}

// P1

func TestAnyText(t *testing.T) {
	r := rand.New(rand.NewSource(1))
	bytes := "cell a=1;again tries base 0 factor 2 cap 9 close fine fail panic if then else try wait let in item size $x()[],.=+-*&<\"\\\n#\x00\xff?A "
	for range 30000 {
		var s strings.Builder
		for range r.Intn(30) {
			if r.Intn(3) == 0 {
				s.WriteByte(bytes[r.Intn(len(bytes))])
			} else {
				s.WriteString(every[r.Intn(len(every))] + " ")
			}
		}
		for _, start := range []string{"E", "One", "All"} {
			if fault := faultOf(t, start, s.String()); fault.At < 0 || fault.At > s.Len() || fault.Code == api.OK && fault.At != 0 {
				t.Fatalf("%s of %q: %v", start, s.String(), fault)
			}
		}
	}
}
