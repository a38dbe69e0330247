package sched

// The numbers of xorshift64*.
const (
	seedOfZero = 0x9e3779b97f4a7c15 // the state 0 would stay 0
	factor     = 0x2545f4914f6cdd1d
)

// chance is the state that throws come of.
type chance uint64

func chanceOf(seed uint64) chance {
	if seed == 0 {
		return seedOfZero
	}
	return chance(seed)
}

// throw is the next throw.
func (c *chance) throw() uint64 {
	x := *c
	x ^= x >> 12
	x ^= x << 25
	x ^= x >> 27
	*c = x
	return uint64(x) * factor
}

// small is the next throw, shifted: its upper bits, since the lower ones are the worse.
func (c *chance) small() int { return int(c.throw() >> 33) }

// seeded picks by a throw a pick.
type seeded struct {
	chance chance
}

func (s *seeded) pick(_ int, ready []int) int { return ready[s.chance.small()%len(ready)] }

func (s *seeded) clone() policy {
	own := *s
	return &own
}
