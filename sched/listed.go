package sched

import "slices"

// scripted picks by its members, one a pick, and the least behind their end.
type scripted []int

func (s scripted) pick(number int, ready []int) int {
	if number >= len(s) {
		return ready[0]
	}
	return ready[s[number]%len(ready)]
}

func (s scripted) clone() policy { return slices.Clone(s) }

// priority picks by the weights that it has of each number; behind its end they are 0.
type priority []int

func (p priority) pick(_ int, ready []int) int { return greatest(ready, p.weight) }

func (p priority) weight(n int) int {
	if n >= len(p) {
		return 0
	}
	return p[n]
}

func (p priority) clone() policy { return slices.Clone(p) }
