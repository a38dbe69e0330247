package grammar

import "onceweb/api"

// Ranks are the forms of the language, each of which is made of the ones behind it: where one is asked for, those behind it stand as they are, and those ahead of it in brackets.
const (
	rankWide = iota // if, try, let, wait
	rankComparison
	rankSum
	rankProduct
	rankPrimary
)

// row is how operations of one kind are written.
type row struct {
	rank int
	word string // the mark between two parts; of a primary the keyword ahead of its parts in brackets
}

var rows = [...]row{
	api.XInt:   {rank: rankPrimary},
	api.XText:  {rank: rankPrimary},
	api.XName:  {rank: rankPrimary},
	api.XLocal: {rank: rankPrimary},
	api.XList:  {rank: rankPrimary},
	api.XAdd:   {rank: rankSum, word: "+"},
	api.XSub:   {rank: rankSum, word: "-"},
	api.XMul:   {rank: rankProduct, word: "*"},
	api.XJoin:  {rank: rankSum, word: "&"},
	api.XItem:  {rank: rankPrimary, word: "item"},
	api.XSize:  {rank: rankPrimary, word: "size"},
	api.XLess:  {rank: rankComparison, word: "<"},
	api.XSame:  {rank: rankComparison, word: "=="},
	api.XIf:    {rank: rankWide},
	api.XTry:   {rank: rankWide},
	api.XFail:  {rank: rankPrimary, word: "fail"},
	api.XPanic: {rank: rankPrimary, word: "panic"},
	api.XGate:  {rank: rankWide},
	api.XLet:   {rank: rankWide},
}
