package cell

import (
	"onceweb/api"
	"onceweb/fail"
	"onceweb/value"
)

// Limits of a policy's numbers.
const (
	maxTries  = 64
	maxBase   = 1 << 30
	maxFactor = 16
)

func isPolicy(p api.Policy) bool {
	return p == api.Policy{} ||
		isWithin(p.Tries, 1, maxTries) && isWithin(p.Base, 0, maxBase) && isWithin(p.Factor, 1, maxFactor) && isWithin(p.Cap, p.Base, api.MaxTick)
}

// wait is how many ticks behind the last of so many failures it is due again.
func wait(p api.Policy, failures int) int {
	ticks := p.Base
	for range failures - 1 {
		// Cut at each step, it never comes near to where a product would wrap.
		ticks = min(ticks*p.Factor, p.Cap)
	}
	return ticks
}

func isWithin(n, least, most int) bool { return n >= least && n <= most }

func isTask(task int) bool { return isWithin(task, 0, api.MaxTasks-1) }

func isTime(at int) bool { return isWithin(at, 0, api.MaxTick) }

// isNow tells whether at may be told: time does not go back.
func (c *Cell) isNow(at int) bool { return isWithin(at, c.last, api.MaxTick) }

// isOutcome tells whether o is right.
func isOutcome(o api.Outcome) bool {
	switch o.Kind {
	case api.OValue:
		return value.Check(o.Value) == api.OK && len(o.Fail) == 0
	case api.OFail:
		return fail.Check(o.Fail) == api.OK && len(o.Value) == 0
	case api.OPanic:
		return fail.Check(o.Fail) == api.OK && len(o.Value) == 0 && o.Fail[len(o.Fail)-1].Kind == api.FPanic
	}
	return false
}

// copyOf lays o into new memory: also of an empty list with room behind it nothing is kept.
func copyOf(o api.Outcome) api.Outcome {
	return api.Outcome{Kind: o.Kind, Value: append(api.Value(nil), o.Value...), Fail: append(api.Fail(nil), o.Fail...)}
}
