package names

import (
	"onceweb/api"
)

// asking is what each provider of a set asks for, each name once, by the provider's name.
type asking map[string][]string

// askingOf is what the providers of l ask for; or l's fault.
func askingOf(l []api.Provider) (asking, api.Fault) {
	if fault := CheckSet(l); fault.Code != api.OK {
		return nil, fault
	}
	a := asking{}
	for _, p := range l {
		a[p.Name] = textsOf(p.Expr, api.XName)
	}
	return a, api.Fault{}
}

// askingFrom is as askingOf; but a fault too, if no provider has that name.
func askingFrom(l []api.Provider, name string) (asking, api.Fault) {
	a, fault := askingOf(l)
	if fault.Code == api.OK && !a.provides(name) {
		fault.Code = api.ErrNone
	}
	return a, fault
}

func (a asking) provides(name string) bool {
	_, ok := a[name]
	return ok
}

// closure is all names that a name leads to.
func (a asking) closure(name string) nameSet {
	found := nameSet{}
	var follow func(name string)
	follow = func(name string) {
		for _, asked := range a[name] {
			if !found.has(asked) {
				found.add(asked)
				follow(asked)
			}
		}
	}
	follow(name)
	return found
}

// Missing is the names that are asked for and no provider has.
func Missing(l []api.Provider) ([]string, api.Fault) {
	a, fault := askingOf(l)
	if fault.Code != api.OK {
		return nil, fault
	}
	var missing []string
	for _, p := range l {
		missing = append(missing, removeFunc(a[p.Name], a.provides)...)
	}
	return eachOnce(missing), api.Fault{}
}

// Closure is all names that a name leads to, by rising bytes.
func Closure(l []api.Provider, name string) ([]string, api.Fault) {
	a, fault := askingFrom(l, name)
	if fault.Code != api.OK {
		return nil, fault
	}
	return a.closure(name).sorted(), api.Fault{}
}

// Cyclic is the names that lead back to themselves, by rising bytes.
func Cyclic(l []api.Provider) ([]string, api.Fault) {
	a, fault := askingOf(l)
	if fault.Code != api.OK {
		return nil, fault
	}
	cyclic := nameSet{}
	for name := range a {
		if a.closure(name).has(name) {
			cyclic.add(name)
		}
	}
	return cyclic.sorted(), api.Fault{}
}

// endless is the length of a chain that comes to a round.
const endless = -1

// Longest is how many providers the longest chain from a name on has.
func Longest(l []api.Provider, name string) (int, api.Fault) {
	a, fault := askingFrom(l, name)
	if fault.Code != api.OK {
		return 0, fault
	}
	return a.longest(name, map[string]int{}), api.Fault{}
}

// longest is the longest chain from a name on; known holds those that were looked at, so that each is gone through once.
func (a asking) longest(name string, known map[string]int) int {
	if !a.provides(name) {
		return 0
	}
	if length, ok := known[name]; ok {
		return length
	}
	// Whoever comes back to a name that is still being looked at has gone round.
	known[name] = endless
	most := 0
	for _, asked := range a[name] {
		length := a.longest(asked, known)
		if length == endless {
			return endless
		}
		most = max(most, length)
	}
	known[name] = most + 1
	return most + 1
}
