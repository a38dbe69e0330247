package names

import (
	"maps"
	"slices"
)

// nameSet is names, none twice.
type nameSet map[string]struct{}

func (s nameSet) has(name string) bool {
	_, ok := s[name]
	return ok
}

func (s nameSet) add(name string) { s[name] = struct{}{} }

func (s nameSet) addAll(other nameSet) { maps.Copy(s, other) }

// addBoth adds what is in both of the others.
func (s nameSet) addBoth(one, other nameSet) {
	for name := range one {
		if other.has(name) {
			s.add(name)
		}
	}
}

// sorted is the names by rising bytes.
func (s nameSet) sorted() []string { return slices.Sorted(maps.Keys(s)) }

// eachOnce is the names of l, each where it stands first alone.
func eachOnce(l []string) []string {
	ahead := nameSet{}
	return removeFunc(l, func(name string) bool {
		twice := ahead.has(name)
		ahead.add(name)
		return twice
	})
}

// removeFunc is the members of l, a new list, of which out tells false.
func removeFunc[T any](l []T, out func(member T) bool) []T {
	var kept []T
	for _, member := range l {
		if !out(member) {
			kept = append(kept, member)
		}
	}
	return kept
}
