package code_test

import (
	"fmt"
	"math/rand"
	"regexp"
	"slices"
	"strconv"
	"strings"
	"testing"

	"onceweb/api"
	"onceweb/code"
	"onceweb/names"
)

// The chapter again, by other means: codes by sizes that are told ahead, soundness by going every way, lines by patterns.

// tree is an expression with its parts hung on it.
type tree struct {
	op    api.Op
	parts []*tree
}

// treeOf is the tree of x, which is right.
func treeOf(x api.Expr) *tree {
	t, _ := grow(x)
	return t
}

// grow is the tree of the whole at x's end, and what is left ahead of it.
func grow(x api.Expr) (*tree, api.Expr) {
	t, left := &tree{op: x[len(x)-1]}, x[:len(x)-1]
	for range t.op.N {
		var part *tree
		part, left = grow(left)
		t.parts = append(t.parts, part)
	}
	slices.Reverse(t.parts)
	return t, left
}

// size is how many instructions t is compiled to.
func (t *tree) size() int {
	n := map[int]int{api.XIf: 2, api.XTry: 3, api.XGate: 2, api.XLet: 2}[t.op.Kind]
	if n == 0 {
		n = 1
	}
	for _, p := range t.parts {
		n += p.size()
	}
	return n
}

// lines is what t is compiled to from the place at on, where it stands in the second parts of XLets of those names, the nearest one first.
func (t *tree) lines(at int, lets []string) []string {
	part := func(i, place int) []string { return t.parts[i].lines(place, lets) }
	line := func(word string, n int) []string { return []string{word + " " + strconv.Itoa(n)} }
	switch t.op.Kind {
	case api.XInt:
		return line("int", t.op.Int)
	case api.XText:
		return []string{"text " + strconv.Quote(t.op.Text)}
	case api.XName:
		return []string{"force " + t.op.Text}
	case api.XLocal:
		return line("load", len(lets)-1-slices.Index(lets, t.op.Text))
	case api.XIf:
		third := at + t.parts[0].size() + 1 + t.parts[1].size() + 1
		return slices.Concat(part(0, at), line("else", third), part(1, third-1-t.parts[1].size()), line("jump", at+t.size()), part(2, third))
	case api.XTry:
		second := at + 1 + t.parts[0].size() + 2
		return slices.Concat(line("try", second), part(0, at+1), []string{"done"}, line("jump", at+t.size()), part(1, second))
	case api.XGate:
		return slices.Concat([]string{"gate " + t.op.Text}, part(0, at+1), []string{"past"})
	case api.XLet:
		inside := slices.Insert(slices.Clone(lets), 0, t.op.Text)
		return slices.Concat(part(0, at), line("keep", len(lets)), t.parts[1].lines(at+t.parts[0].size()+1, inside), line("leave", len(lets)))
	}
	var l []string
	for i, place := 0, at; i < len(t.parts); i++ {
		l = append(l, part(i, place)...)
		place += t.parts[i].size()
	}
	switch t.op.Kind {
	case api.XList:
		return append(l, "make "+strconv.Itoa(len(t.parts)))
	case api.XFail:
		return append(l, "fail")
	case api.XPanic:
		return append(l, "panic")
	}
	return append(l, "do "+doWords[t.op.Kind-api.XAdd])
}

// slowCompile is the code of x, which is right.
func slowCompile(x api.Expr) api.Code {
	var c api.Code
	for _, line := range append(treeOf(x).lines(0, nil), "halt") {
		c = append(c, instr(line))
	}
	return c
}

// point is a place, and the state in which it is come to. Each CTry and CGate begins a pile of its own, from which alone values are taken; what is not over is told by letters, K of a CKeep, G of a CGate, T and where it goes of a CTry.
type point struct {
	at    int
	piles []int
	open  []string
}

func (p point) String() string { return fmt.Sprint(p.piles, p.open) }

func (p point) keeps() int {
	n := 0
	for _, s := range p.open {
		n += strings.Count(s, "K")
	}
	return n
}

// take takes n values away, if they may be taken, and lays on m.
func (p *point) take(n, m int) bool {
	top := len(p.piles) - 1
	p.piles = slices.Clone(p.piles)
	p.piles[top] += m - n
	return p.piles[top]-m >= 0
}

// begin is that something begins that is not over.
func (p *point) begin(what string, pile bool) {
	p.open = append(slices.Clone(p.open), what)
	if pile {
		p.piles = append(slices.Clone(p.piles), 0)
	}
}

// end is that what began last is over, if it is of that letter.
func (p *point) end(letter string) bool {
	last := len(p.open) - 1
	if last < 0 || p.open[last][:1] != letter {
		return false
	}
	p.open = p.open[:last]
	if letter == "K" {
		return true
	}
	top := len(p.piles) - 1
	if p.piles[top] != 1 {
		return false
	}
	p.piles = slices.Clone(p.piles[:top])
	p.piles[top-1]++
	return true
}

// next is where p leads to, by an instruction that is well formed; false, if it may not be met there.
func (p point) next(in api.Instr) ([]point, bool) {
	ok, ahead, goes := true, p, true
	p.at++
	switch in.Op {
	case api.CInt, api.CText, api.CForce:
		p.take(0, 1)
	case api.CLoad:
		ok = in.A < p.keeps()
		p.take(0, 1)
	case api.CKeep:
		ok = p.take(1, 0) && in.A == p.keeps()
		p.begin("K", false)
	case api.CLeave:
		ok = in.A == p.keeps()-1 && p.end("K")
	case api.CMake:
		ok = p.take(in.A, 1)
	case api.CDo:
		takes := map[bool]int{true: 1, false: 2}[in.A == api.XSize]
		ok = p.take(takes, 1)
	case api.CElse:
		ok = p.take(1, 0)
		return []point{p, {at: in.A, piles: p.piles, open: p.open}}, ok
	case api.CJump:
		p.at = in.A
	case api.CTry:
		p.begin("T"+strconv.Itoa(in.A), true)
		ahead.at = in.A
		return []point{p, ahead}, true
	case api.CDone:
		ok = p.end("T")
	case api.CGate:
		p.begin("G", true)
	case api.CPast:
		ok = p.end("G")
	case api.CFail, api.CPanic:
		ok, goes = p.take(1, 0), false
	case api.CHalt:
		ok, goes = p.String() == "[1] []", false
	}
	if !goes {
		return nil, ok
	}
	return []point{p}, ok
}

var namePattern = regexp.MustCompile(`^[a-z][a-z0-9_]{0,23}$`)

// slowFormed tells whether in is well formed at a place of a code of that size.
func slowFormed(in api.Instr, at, size int) bool {
	least, most := mayHave(in.Op)
	if slices.Contains([]int{api.CElse, api.CJump, api.CTry}, in.Op) {
		least, most = at+1, size-1
	}
	textOK := in.Text == ""
	switch in.Op {
	case api.CText:
		textOK = len(in.Text) <= api.MaxWord
	case api.CForce, api.CGate:
		textOK = namePattern.MatchString(in.Text) && !slices.Contains(keywords, in.Text)
	}
	return in.Op >= api.CInt && in.Op <= api.CPast && in.A >= least && in.A <= most && textOK && (in.Op == api.CHalt) == (at == size-1)
}

// slowSound tells whether c, of at most MaxCode instructions, is sound: by going every way, and looking at each place for a second state.
func slowSound(c api.Code) bool {
	for at, in := range c {
		if !slowFormed(in, at, len(c)) {
			return false
		}
	}
	states := make([]string, len(c))
	ways := []point{{piles: []int{0}}}
	for len(ways) > 0 {
		p := ways[len(ways)-1]
		ways = ways[:len(ways)-1]
		if len(c) == 0 || states[p.at] != "" && states[p.at] != p.String() {
			return false
		}
		if states[p.at] != "" {
			continue
		}
		states[p.at] = p.String()
		more, ok := p.next(c[p.at])
		if !ok {
			return false
		}
		ways = append(ways, more...)
	}
	return true
}

// linePattern is what a line may be, but for how great its number may be, and how long its text.
var linePattern = regexp.MustCompile(`^(?:(int|load|keep|leave|make|else|jump|try) (0|-?[1-9][0-9]*)|(do) (add|sub|mul|join|item|size|less|same)|(force|gate) ([a-z][a-z0-9_]{0,23})|(text) "((?:[ !#-\[\]-~]|\\["\\n]|\\x(?:[01][0-9a-f]|7f|[89a-f][0-9a-f]))*)"|done|fail|panic|halt|past)$`)

// slowLine tells whether a line is the text of a well formed instruction at that place.
func slowLine(line string, at int) bool {
	m := linePattern.FindStringSubmatch(line)
	if m == nil || m[8] != "" && strings.Contains(m[8], `\x0a`) || slices.Contains(keywords, m[6]) {
		return false
	}
	if m[7] != "" {
		text, err := strconv.Unquote(`"` + m[8] + `"`)
		return err == nil && len(text) <= api.MaxWord
	}
	if m[1] == "" {
		return true
	}
	n, err := strconv.Atoi(m[2])
	least, most := mayHave(instr(m[1] + " 0").Op)
	if strings.Contains("else jump try", m[1]) {
		least, most = at+1, api.MaxInt
	}
	return err == nil && n >= least && n <= most
}

// slowParse is Parse's fault of s, which is not too long.
func slowParse(s string) api.Fault {
	lines := strings.SplitAfter(s, "\n")
	if lines[len(lines)-1] == "" {
		lines = lines[:len(lines)-1]
	}
	var c api.Code
	for at, line := range lines {
		if at == code.MaxCode {
			return api.Fault{At: at, Code: api.ErrLong}
		}
		line, ended := strings.CutSuffix(line, "\n")
		if !ended || !slowLine(line, at) {
			return api.Fault{At: at, Code: api.ErrForm}
		}
		c = append(c, instr(line))
	}
	if !slowSound(c) {
		return api.Fault{Code: api.ErrCode}
	}
	return api.Fault{}
}

// Expressions and codes for these means to be held against.

// leaves and wholes are operations of every kind; the parts of a whole are told by its N.
var (
	leaves = append(read(`[1, -7, "", "a\"\\\n", a, b, c, []]`)[:8], api.Op{Kind: api.XInt, Int: -api.MaxInt})
	wholes = []api.Op{
		op(api.XList, 1), op(api.XList, 2), op(api.XList, 3), op(api.XAdd, 2), op(api.XSub, 2), op(api.XMul, 2), op(api.XJoin, 2), op(api.XItem, 2), op(api.XSize, 1), op(api.XLess, 2), op(api.XSame, 2),
		op(api.XIf, 3), op(api.XIf, 3), op(api.XIf, 3), op(api.XTry, 2), op(api.XTry, 2), op(api.XTry, 2), op(api.XFail, 1), op(api.XPanic, 1),
		{Kind: api.XGate, N: 1, Text: "g"}, {Kind: api.XGate, N: 1, Text: "h"}, {Kind: api.XLet, N: 2, Text: "x"}, {Kind: api.XLet, N: 2, Text: "x"}, {Kind: api.XLet, N: 2, Text: "y"}, {Kind: api.XLet, N: 2, Text: "l1"},
	}
)

// chance is an expression by chance, where those locals are bound; its depth is at most deep + 1.
func chance(r *rand.Rand, deep int, locals []string) api.Expr {
	if deep == 0 || r.Intn(6) == 0 {
		l := slices.Clone(leaves)
		for _, local := range locals {
			l = append(l, api.Op{Kind: api.XLocal, Text: local}, api.Op{Kind: api.XLocal, Text: local})
		}
		return api.Expr{l[r.Intn(len(l))]}
	}
	whole := wholes[r.Intn(len(wholes))]
	var x api.Expr
	for i := range whole.N {
		if whole.Kind == api.XLet && i == 1 {
			locals = append(slices.Clone(locals), whole.Text)
		}
		x = append(x, chance(r, deep-1, locals)...)
	}
	return append(x, whole)
}

// chances calls f with expressions by chance; the seed is fixed, so that each run is the same.
func chances(n int, f func(r *rand.Rand, x api.Expr)) {
	r := rand.New(rand.NewSource(9))
	for range n {
		if x := chance(r, r.Intn(7), nil); len(x) <= api.MaxOps {
			f(r, x)
		}
	}
}

// nestings calls f with every kind of operation in each part of every other one, and once more in each part of every third one.
func nestings(f func(x api.Expr)) {
	var walk func(deep int, inner api.Expr)
	walk = func(deep int, inner api.Expr) {
		f(inner)
		if deep == 0 {
			return
		}
		for _, whole := range wholes {
			for place := range whole.N {
				var x api.Expr
				for i := range whole.N {
					if i == place {
						x = append(x, inner...)
					} else {
						x = append(x, api.Op{Kind: api.XName, Text: "d"})
					}
				}
				walk(deep-1, append(x, whole))
			}
		}
	}
	for _, leaf := range leaves {
		walk(1, api.Expr{leaf})
	}
	walk(3, api.Expr{{Kind: api.XName, Text: "a"}})
}

// small calls f with each list of at most most of these operations that is a right expression.
func small(l api.Expr, most int, f func(x api.Expr)) {
	var walk func(x api.Expr)
	walk = func(x api.Expr) {
		if names.Check(x) == api.OK {
			f(x)
		}
		if len(x) == most {
			return
		}
		for _, o := range l {
			walk(append(slices.Clone(x), o))
		}
	}
	walk(nil)
}

// eachRight calls f with right expressions: all small ones, nestings, and many by chance.
func eachRight(f func(x api.Expr)) {
	small(smallOps, 5, f)
	small(binding, 7, f)
	nestings(f)
	chances(6000, func(_ *rand.Rand, x api.Expr) { f(x) })
}

// smallOps and smallLines are enough for each shape of a small expression, and of a small code; binding is enough for each way in which XLets may lie within each other.
var (
	smallOps   = append(api.Expr{op(api.XList, 0), op(api.XList, 2), op(api.XSize, 1), op(api.XIf, 3), op(api.XTry, 2), op(api.XFail, 1), {Kind: api.XGate, N: 1, Text: "g"}}, binding...)
	binding    = api.Expr{{Kind: api.XInt, Int: 1}, {Kind: api.XLocal, Text: "l0"}, {Kind: api.XLocal, Text: "l1"}, {Kind: api.XLet, N: 2, Text: "l0"}, {Kind: api.XLet, N: 2, Text: "l1"}, op(api.XAdd, 2)}
	smallLines = strings.Fields("int_1 load_0 load_1 keep_0 keep_1 leave_0 leave_1 make_0 make_2 do_add do_size done fail gate_g past")
	jumpWords  = strings.Fields("else jump try")
)

// smallCodes calls f with each code of that size whose last instruction is a CHalt, of those lines and of all jumps to places behind their own. The code is lent for the time of the call alone.
func smallCodes(lines []string, size int, f func(c api.Code)) {
	c := make(api.Code, size)
	c[size-1] = halt
	var walk func(at int)
	walk = func(at int) {
		if at == size-1 {
			f(c)
			return
		}
		for _, line := range lines {
			c[at] = instr(strings.Replace(line, "_", " ", 1))
			walk(at + 1)
		}
		for _, word := range jumpWords {
			for to := at + 1; to < size; to++ {
				c[at] = instr(word + " " + strconv.Itoa(to))
				walk(at + 1)
			}
		}
	}
	walk(0)
}

// TestTheJudge asks the means of these tests for what the chapter's examples say.
func TestTheJudge(t *testing.T) {
	if c := slowCompile(read("if a then 1 else 2")); !slices.Equal(c, codeOf("force a; else 4; int 1; jump 5; int 2; halt")) {
		t.Errorf("an XIf: %v", c)
	}
	if c := slowCompile(read("let $x = a in $x + $x")); !slices.Equal(c, codeOf("force a; keep 0; load 0; load 0; do add; leave 0; halt")) {
		t.Errorf("an XLet: %v", c)
	}
	if !slowSound(codeOf(`try 5; text "x"; fail; done; jump 6; force b; halt`)) || slowSound(codeOf("do add; halt")) || slowSound(nil) {
		t.Error("soundness is off")
	}
	if f := slowParse("int 1\nhalt"); f != (api.Fault{At: 1, Code: api.ErrForm}) {
		t.Errorf("a line feed that lacks: %v", f)
	}
}
