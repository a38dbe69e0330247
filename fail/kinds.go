package fail

import (
	"onceweb/api"
	"onceweb/lex"
)

// The kinds as api numbers them, counted up: the places in the table of kinds.
const (
	kindRaise = api.FRaise + iota
	kindPanic
	kindValue
	kindNone
	kindCycle
	kindDepth
	kindClosed
	kindToken
	kindCell
	kindJoin
	kindLong
)

// What the text of a crack may be.
const (
	textNone = iota // it has none
	textAny         // any one, told in quotes
	textWord        // an operation's word
	textName
)

// row is what a crack of one kind may be, and how it is told: its word, its text, and then, if it has parts, open, the parts with between between any two, and end.
type row struct {
	word               string
	text               int
	least, most        int // how many parts
	open, between, end string
}

var rows = [...]row{
	kindRaise:  {word: "fail", text: textAny},
	kindPanic:  {word: "panic", text: textAny},
	kindValue:  {word: "value", text: textWord},
	kindNone:   {word: "none", text: textName},
	kindCycle:  {word: "cycle", text: textName},
	kindDepth:  {word: "depth"},
	kindClosed: {word: "closed"},
	kindToken:  {word: "token", text: textAny, most: 1, open: ": "},
	kindCell:   {word: "cell", text: textName, least: 1, most: 1, open: ": "},
	kindJoin:   {word: "join", least: 1, most: api.MaxCracks, open: "(", between: "; ", end: ")"},
	kindLong:   {word: "long"},
}

// words are the operations that values may not fit.
var words = [...]string{"list", "add", "sub", "mul", "join", "item", "size", "if", "fail", "panic"}

func isKind(kind int) bool { return kind >= kindRaise && kind <= kindLong }

// kindOf is the kind that is told by that word; 0, if none is.
func kindOf(word string) int {
	for kind := kindRaise; kind <= kindLong; kind++ {
		if rows[kind].word == word {
			return kind
		}
	}
	return 0
}

// isTextOf tells whether a crack of that kind, which is one, may have that text.
func isTextOf(kind int, text string) bool {
	switch rows[kind].text {
	case textAny:
		return len(text) <= api.MaxWord
	case textWord:
		return isWord(text)
	case textName:
		return lex.IsName(text)
	}
	return text == ""
}

func isWord(s string) bool {
	for _, w := range words {
		if s == w {
			return true
		}
	}
	return false
}
