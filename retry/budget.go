package retry

import "onceweb/api"

// maxLevel is the greatest of a budget's numbers.
const maxLevel = 1000000

// Budget lets some tries again through for each that went well.
type Budget struct {
	most, cost, gain, level int
}

// NewBudget is a full budget.
func NewBudget(most, cost, gain int) (*Budget, api.Errno) {
	if !isWithin(most, 0, maxLevel) || !isWithin(cost, 0, maxLevel) || !isWithin(gain, 0, maxLevel) {
		return nil, api.ErrRange
	}
	return &Budget{most: most, cost: cost, gain: gain, level: most}, api.OK
}

// Ask tells whether one may try again.
func (b *Budget) Ask() bool { return 2*b.level > b.most }

// Tell tells what came of a try.
func (b *Budget) Tell(fine bool) {
	if fine {
		b.level = min(b.level+b.gain, b.most)
	} else {
		b.level = max(b.level-b.cost, 0)
	}
}

// Level is a budget's level.
func (b *Budget) Level() int { return b.level }
