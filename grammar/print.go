package grammar

import (
	"strconv"
	"strings"

	"onceweb/api"
	"onceweb/lex"
)

// piece is a part as it is written.
type piece struct {
	text string
	rank int
}

// within is the piece where that rank is asked for.
func (p piece) within(rank int) string {
	if p.rank < rank {
		return "(" + p.text + ")"
	}
	return p.text
}

// layExpr is the layout of e, which is right; but if it is longer than a text may be, perhaps a part of it alone that is too long already.
func layExpr(e api.Expr) string {
	var open []piece // a stack: those that are no parts yet
	for _, op := range e {
		first := len(open) - op.N
		text := layOp(op, open[first:])
		// Left at once, so that no long text is copied over and over.
		if len(text) > api.MaxText {
			return text
		}
		open = append(open[:first], piece{text, rows[op.Kind].rank})
	}
	return open[0].text
}

func layOp(op api.Op, parts []piece) string {
	switch op.Kind {
	case api.XInt:
		return strconv.Itoa(op.Int)
	case api.XText:
		return lex.Quote(op.Text)
	case api.XName:
		return op.Text
	case api.XLocal:
		return "$" + op.Text
	case api.XList:
		return "[" + layList(parts) + "]"
	case api.XItem, api.XSize, api.XFail, api.XPanic:
		return rows[op.Kind].word + "(" + layList(parts) + ")"
	case api.XIf:
		return "if " + parts[0].text + " then " + parts[1].text + " else " + parts[2].text
	case api.XTry:
		return "try " + parts[0].text + " else " + parts[1].text
	case api.XGate:
		return "wait " + op.Text + " . " + parts[0].text
	case api.XLet:
		return "let $" + op.Text + " = " + parts[0].text + " in " + parts[1].text
	}
	return layPair(rows[op.Kind], parts[0], parts[1])
}

func layList(parts []piece) string {
	texts := make([]string, len(parts))
	for i, part := range parts {
		texts[i] = part.text
	}
	return strings.Join(texts, ", ")
}

func layPair(r row, first, second piece) string {
	ahead := r.rank
	if r.rank == rankComparison {
		// Comparisons do not stand in a row.
		ahead++
	}
	return first.within(ahead) + " " + r.word + " " + second.within(r.rank+1)
}

// layProvider is the layout of p, which is right; if it is longer than a text may be, as layExpr says.
func layProvider(p api.Provider) string {
	words := []string{"cell", p.Name, "=", layExpr(p.Expr)}
	if p.Again {
		words = append(words, "again")
	}
	words = append(words, policyWords(p.Policy)...)
	words = append(words, closerWords(p.Closer)...)
	return strings.Join(words, " ") + ";\n"
}

func policyWords(p api.Policy) []string {
	if p == (api.Policy{}) {
		return nil
	}
	return []string{"tries", strconv.Itoa(p.Tries), "base", strconv.Itoa(p.Base), "factor", strconv.Itoa(p.Factor), "cap", strconv.Itoa(p.Cap)}
}

func closerWords(c api.Closer) []string {
	switch c.Kind {
	case api.CloseFine:
		return []string{"close", "fine"}
	case api.CloseFail:
		return []string{"close", "fail", lex.Quote(c.Text)}
	case api.ClosePanic:
		return []string{"close", "panic", lex.Quote(c.Text)}
	}
	return nil
}
