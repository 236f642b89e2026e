package expand

// bits is how many numbers a word of a set holds.
const bits = 64

// names is a set of macros by their numbers, a bit each. It is never changed once it is made, so that many tokens may share it.
type names []uint64

// has says whether the macro with a number belongs to s.
func (s names) has(number int) bool {
	word := number / bits
	return word < len(s) && s[word]>>(number%bits)&1 == 1
}

// with are the macros of s and the one with a number.
func (s names) with(number int) names {
	more := make(names, max(len(s), number/bits+1))
	copy(more, s)
	more[number/bits] |= 1 << (number % bits)
	return more
}

// or are the macros that belong to one of two sets.
func (s names) or(t names) names {
	if len(s) < len(t) {
		s, t = t, s
	}
	if len(t) == 0 {
		return s
	}
	either := make(names, len(s))
	copy(either, s)
	for i, word := range t {
		either[i] |= word
	}
	return either
}

// and are the macros that belong to both of two sets.
func (s names) and(t names) names {
	both := make(names, min(len(s), len(t)))
	for i := range both {
		both[i] = s[i] & t[i]
	}
	return both
}
