package cell

import "onceweb/api"

// row is what a cell does in a state.
type row struct {
	meet  func(at int) int       // what a force meets at a time
	reset func(at int) api.Errno // at a time that may be told
	shut  func() api.Errno
}

// row is what c does now.
func (c *Cell) row() row {
	switch c.stand.state {
	case api.CIdle:
		return row{c.mustRun, c.renew, c.shut}
	case api.CRunning:
		return row{c.mustWait, c.refuseAt, c.refuse}
	case api.CReady:
		return row{c.mustTell, c.renew, c.shut}
	case api.CFailed:
		return row{c.mustRunOrTell, c.renew, c.shut}
	}
	return row{c.isShut, c.refuseAt, c.refuse}
}

func (c *Cell) mustRun(at int) int { return api.ARun }

func (c *Cell) mustWait(at int) int { return api.AWait }

func (c *Cell) mustTell(at int) int { return api.ATell }

func (c *Cell) isShut(at int) int { return api.AClosed }

// mustRunOrTell hangs on whether it is due.
func (c *Cell) mustRunOrTell(at int) int {
	if c.triesAgain() && at >= c.next() {
		return c.mustRun(at)
	}
	return c.mustTell(at)
}

func (c *Cell) refuse() api.Errno { return api.ErrState }

func (c *Cell) refuseAt(at int) api.Errno { return c.refuse() }

// renew begins a new life, if there may be one.
func (c *Cell) renew(at int) api.Errno {
	if !c.again {
		return c.refuse()
	}
	c.stand = stand{state: api.CIdle}
	c.out = api.Outcome{}
	c.fails = 0
	c.last = at
	return api.OK
}

func (c *Cell) shut() api.Errno {
	c.stand = stand{state: api.CClosed}
	return api.OK
}

// triesAgain tells whether it is due by time alone, now or later.
func (c *Cell) triesAgain() bool {
	return c.stand.state == api.CFailed && c.out.Kind == api.OFail && c.fails < c.policy.Tries
}

// next is from when on it is due, if it tries again.
func (c *Cell) next() int { return min(c.last+wait(c.policy, c.fails), api.MaxTick) }
