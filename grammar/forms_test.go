package grammar_test

import (
	"math/rand"
	"slices"
	"strings"
	"testing"

	"onceweb/api"
	"onceweb/grammar"
	"onceweb/names"
)

// form is a form of the language as the chapter has it: its group (P a primary, M a product, S a sum, C a comparison, W an if, try, let, wait), its layout with a % for each part, its operation, and of each part the groups that stand in brackets there.
type form struct {
	group, layout, op string
	brackets          []string
}

var forms = []form{
	{"P", "7", "7", nil}, {"P", "0", "0", nil}, {"P", "-7", "-7", nil}, {"P", `"t"`, "'t", nil}, {"P", "a", "a", nil}, {"P", "$x", "$x", nil}, {"P", "[]", "list:0", nil},
	{"P", "[%]", "list:1", []string{""}}, {"P", "[%, %]", "list:2", []string{"", ""}}, {"P", "[%, %, %]", "list:3", []string{"", "", ""}},
	{"P", "fail(%)", "fail", []string{""}}, {"P", "panic(%)", "panic", []string{""}}, {"P", "size(%)", "size", []string{""}}, {"P", "item(%, %)", "item", []string{"", ""}},
	{"M", "% * %", "*", []string{"SCW", "MSCW"}},
	{"S", "% + %", "+", []string{"CW", "SCW"}}, {"S", "% - %", "-", []string{"CW", "SCW"}}, {"S", "% & %", "&", []string{"CW", "SCW"}},
	{"C", "% < %", "<", []string{"CW", "CW"}}, {"C", "% == %", "==", []string{"CW", "CW"}},
	{"W", "if % then % else %", "if", []string{"", "", ""}}, {"W", "try % else %", "try", []string{"", ""}}, {"W", "let $x = % in %", "let:x", []string{"", ""}}, {"W", "wait g . %", "gate:g", []string{""}},
}

// tree is an expression as a form, with its parts hung on it.
type tree struct {
	form
	parts []*tree
}

// text is the tree's layout, where each part is laid out by lay.
func (t *tree) text(lay func(part *tree, brackets bool) string) string {
	s := t.layout
	for i, part := range t.parts {
		s = strings.Replace(s, "%", lay(part, strings.Contains(t.brackets[i], part.group)), 1)
	}
	return s
}

func (t *tree) neat() string {
	return t.text(func(part *tree, brackets bool) string {
		if brackets {
			return "(" + part.neat() + ")"
		}
		return part.neat()
	})
}

// full is the tree's text with brackets around each part.
func (t *tree) full() string {
	return t.text(func(part *tree, _ bool) string { return "(" + part.full() + ")" })
}

// loose is the tree's text with brackets by chance around parts that need none.
func (t *tree) loose(r *rand.Rand) string {
	return t.text(func(part *tree, brackets bool) string {
		s := part.loose(r)
		if brackets {
			s = "(" + s + ")"
		}
		for r.Intn(4) == 0 {
			s = "(" + s + ")"
		}
		return s
	})
}

func (t *tree) expr() api.Expr {
	var e api.Expr
	for _, part := range t.parts {
		e = append(e, part.expr()...)
	}
	return append(e, op(t.op))
}

// inLet is the tree as the second part of a let of x, so that all its locals are bound.
func (t *tree) inLet() *tree {
	return &tree{form{"W", "let $x = % in %", "let:x", []string{"", ""}}, []*tree{{form: form{"P", "0", "0", nil}}, t}}
}

// leaf is a part that is a name.
func leaf(name string) *tree { return &tree{form: form{"P", name, name, nil}} }

// Each form as each part of each other one, all the parts at once.
func TestFormsInForms(t *testing.T) {
	var inner []*tree
	for _, f := range forms {
		in := &tree{form: f}
		for i := range f.brackets {
			in.parts = append(in.parts, leaf("bcd"[i:i+1]))
		}
		inner = append(inner, in)
	}
	for _, f := range forms {
		eachParts(len(f.brackets), inner, func(parts []*tree) {
			whole := (&tree{f, parts}).inLet()
			wantExpr(t, whole.neat(), whole.expr())
			wantExpr(t, whole.full(), whole.expr())
			wantPrinted(t, whole.expr(), whole.neat())
		})
	}
}

// eachParts calls f with each list of so many of those.
func eachParts(n int, l []*tree, f func(parts []*tree)) {
	if n == 0 {
		f(nil)
		return
	}
	for _, last := range l {
		eachParts(n-1, l, func(parts []*tree) { f(append(slices.Clone(parts), last)) })
	}
}

// Without the brackets that must stand, another expression is read, or none.
func TestBracketsThatMustStand(t *testing.T) {
	stand := 0
	for _, f := range forms {
		for i, groups := range f.brackets {
			for _, in := range forms {
				if !strings.Contains(groups, in.group) {
					continue
				}
				stand++
				whole := &tree{form: f}
				for k := range f.brackets {
					whole.parts = append(whole.parts, leaf("uvw"[k:k+1]))
				}
				whole.parts[i] = &tree{form: in}
				for k := range in.brackets {
					whole.parts[i].parts = append(whole.parts[i].parts, leaf("bcd"[k:k+1]))
				}
				bare := whole.text(func(part *tree, _ bool) string { return part.neat() })
				if e, fault := grammar.ReadExpr(bare); fault == fine && slices.Equal(e, whole.expr()) {
					t.Errorf("%s is read as %s", bare, whole.neat())
				}
			}
		}
	}
	// Of a product 9 forms and 10, of each of the three sums 6 and 9, of each of the two comparisons 6 and 6.
	if want := 9 + 10 + 3*(6+9) + 2*(6+6); stand != want {
		t.Errorf("%d brackets must stand, want %d", stand, want)
	}
}

// grown is a tree by chance, of at most that depth; its locals are bound in a let of x around it.
func grown(r *rand.Rand, deep int) *tree {
	// Leaves are few, so that trees grow.
	isLeaf := deep == 1 || r.Intn(5) == 0
	f := forms[r.Intn(len(forms))]
	for isLeaf != (len(f.brackets) == 0) {
		f = forms[r.Intn(len(forms))]
	}
	t := &tree{form: f}
	for range f.brackets {
		t.parts = append(t.parts, grown(r, deep-1))
	}
	return t
}

// eachTree calls f with trees by chance, all of them right; the seed is fixed, so that each run is the same.
func eachTree(n int, f func(r *rand.Rand, whole *tree, e api.Expr)) {
	r := rand.New(rand.NewSource(6))
	for range n {
		whole := grown(r, 1+r.Intn(7)).inLet()
		if e := whole.expr(); len(e) <= api.MaxOps {
			f(r, whole, e)
		}
	}
}

// 6.3

func TestThereAndBack(t *testing.T) {
	brackets, most := 0, 0
	eachTree(6000, func(r *rand.Rand, whole *tree, e api.Expr) {
		s := whole.neat()
		brackets += strings.Count(s, " (")
		most = max(most, len(e))
		wantPrinted(t, e, s)
		wantExpr(t, s, e)
		wantExpr(t, whole.full(), e)
		wantExpr(t, whole.loose(r), e)
		wantBack(t, s)
	})
	if brackets == 0 || most < api.MaxOps/2 {
		t.Fatalf("the trees are all alike: %d, %d", brackets, most)
	}
}

// wantBack asks of what is read of s, if anything is, that it is right, and printed, and read as it, and printed once more the same.
func wantBack(t *testing.T, s string) {
	t.Helper()
	e, fault := grammar.ReadExpr(s)
	if fault != fine {
		return
	}
	if code := names.Check(e); code != api.OK {
		t.Errorf("%s: what is read is not right: %v, %v", s, e, code)
	}
	text, code := grammar.PrintExpr(e)
	again, fault := grammar.ReadExpr(text)
	once, codeOnce := grammar.PrintExpr(again)
	if code != api.OK || fault != fine || !slices.Equal(again, e) || codeOnce != api.OK || once != text {
		t.Errorf("%s: printed %s, %v; read %v, %v; printed %s, %v", s, text, code, again, fault, once, codeOnce)
	}
}

func TestSetsThereAndBack(t *testing.T) {
	var l []api.Provider
	seen := 0
	eachTree(4000, func(r *rand.Rand, _ *tree, e api.Expr) {
		p := api.Provider{Name: string("abcdefgh"[r.Intn(8)]), Expr: e, Again: r.Intn(2) == 0}
		if r.Intn(2) == 0 {
			base := r.Intn(1 << 30)
			p.Policy = api.Policy{Tries: 1 + r.Intn(64), Base: base, Factor: 1 + r.Intn(16), Cap: base + r.Intn(api.MaxTick-base+1)}
		}
		if p.Closer.Kind = r.Intn(4); p.Closer.Kind >= api.CloseFail {
			p.Closer.Text = []string{"", "no", "a \"quoted\" # ;\n\x00\xff"}[r.Intn(3)]
		}
		if !slices.ContainsFunc(l, func(q api.Provider) bool { return q.Name == p.Name }) {
			l = append(l, p)
			return
		}
		// What has gathered by now is a set.
		s, fault := grammar.Print(l)
		if fault != fine {
			t.Errorf("Print(%s): %v", brief(l), fault)
		}
		wantSet(t, s, l...)
		seen = max(seen, len(l))
		l = nil
	})
	if seen < 6 {
		t.Errorf("the sets have at most %d providers", seen)
	}
}

// 6.5

func TestNoBracketTooMuch(t *testing.T) {
	pairs := 0
	eachTree(3000, func(_ *rand.Rand, _ *tree, e api.Expr) {
		s, _ := grammar.PrintExpr(e)
		for open := range len(s) {
			// Texts have no brackets here; a word's own are part of its form.
			if s[open] != '(' || open > 0 && s[open-1] >= 'a' && s[open-1] <= 'z' {
				continue
			}
			pairs++
			end := closing(s, open)
			bare := s[:open] + " " + s[open+1:end] + " " + s[end+1:]
			if other, fault := grammar.ReadExpr(bare); fault == fine && slices.Equal(other, e) {
				t.Fatalf("%s: the brackets at %d and %d are too many", s, open, end)
			}
		}
	})
	if pairs < 1000 {
		t.Errorf("%d pairs", pairs)
	}
}

// closing is the place of the bracket that closes the one at open.
func closing(s string, open int) int {
	depth := 0
	for at := open; ; at++ {
		switch s[at] {
		case '(':
			depth++
		case ')':
			depth--
		}
		if depth == 0 {
			return at
		}
	}
}
