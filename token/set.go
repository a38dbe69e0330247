package token

// set is a set of places, one bit each.
type set [MaxTokens / wordBits]uint64

const wordBits = 64

func (s *set) add(place int) { s[place/wordBits] |= 1 << (place % wordBits) }

func (s *set) addAll(others set) {
	for i, word := range others {
		s[i] |= word
	}
}

func (s *set) has(place int) bool { return s[place/wordBits]&(1<<(place%wordBits)) != 0 }
