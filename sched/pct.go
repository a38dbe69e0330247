package sched

import (
	"slices"

	"onceweb/api"
)

// What Pct may be given.
const (
	maxSteps = 1 << 20
	maxDepth = 64
)

// pct picks by weights that are thrown, and that fall below all that are thrown at its change points.
type pct struct {
	chance  chance
	points  []int // the change points, in the order in which they were thrown, each once
	weighed [api.MaxTasks]bool
	weights [api.MaxTasks]int // of those that are weighed
}

func pctOf(seed uint64, steps, depth int) *pct {
	p := &pct{chance: chanceOf(seed)}
	for range depth {
		point := p.chance.small() % steps
		if !slices.Contains(p.points, point) {
			p.points = append(p.points, point)
		}
	}
	return p
}

func (p *pct) pick(number int, ready []int) int {
	p.weigh(ready)
	picked := greatest(ready, func(n int) int { return p.weights[n] })
	if place := slices.Index(p.points, number); place >= 0 {
		p.weights[picked] = -(place + 1)
	}
	return picked
}

// weigh throws a weight for each that is ready for the first time.
func (p *pct) weigh(ready []int) {
	for _, n := range ready {
		if !p.weighed[n] {
			p.weighed[n] = true
			p.weights[n] = p.chance.small()
		}
	}
}

func (p *pct) clone() policy {
	own := *p
	own.points = slices.Clone(p.points)
	return &own
}
