package closer

import (
	"onceweb/api"
	"onceweb/fail"
)

// parts is parts whose names and closers are right.
type parts []api.Part

// comesTo is the failure that the closer of a part comes to; an empty one, where nothing goes wrong.
func (l parts) comesTo(place int) api.Fail {
	switch p := l[place]; p.Closer.Kind {
	case api.CloseFail:
		return told(p, api.FRaise)
	case api.ClosePanic:
		return told(p, api.FPanic)
	}
	return nil
}

// told is a leaf of that kind, of the text of p's closer, and p around it.
func told(p api.Part, kind int) api.Fail {
	// Of a part that may be closed there is no error to tell.
	leaf, _ := fail.Leaf(kind, p.Closer.Text)
	f, _ := fail.Wrap(p.Name, leaf)
	return f
}

// run asks what each place comes to, in order, and tells it.
func run(order []int, ask func(place int) api.Fail, tell func(f api.Fail)) {
	for _, place := range order {
		tell(ask(place))
	}
}
