package ladder

import "math/bits"

// inWord is how many vertices a word of a set stands for.
const inWord = 64

// set is vertices, a bit each.
type set []uint64

func newSet(n int) set {
	return make(set, (n+inWord-1)/inWord)
}

// newSets are n sets of n vertices, all empty.
func newSets(n int) []set {
	out := make([]set, n)
	for i := range out {
		out[i] = newSet(n)
	}
	return out
}

func (s set) has(v int) bool {
	return s[v/inWord]>>(v%inWord)&1 == 1
}

func (s set) add(v int) {
	s[v/inWord] |= 1 << (v % inWord)
}

func (s set) remove(v int) {
	s[v/inWord] &^= 1 << (v % inWord)
}

// addAll adds all of another set.
func (s set) addAll(other set) {
	for i, word := range other {
		s[i] |= word
	}
}

func (s set) size() int {
	n := 0
	for _, word := range s {
		n += bits.OnesCount64(word)
	}
	return n
}

// list are its vertices, rising.
func (s set) list() []int {
	var out []int
	for i, word := range s {
		for ; word != 0; word &= word - 1 {
			out = append(out, i*inWord+bits.TrailingZeros64(word))
		}
	}
	return out
}
