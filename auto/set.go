package auto

import "math/bits"

// set is a set of small numbers: a bit for each, in machine words.
type set []uint64

func newSet(numbers int) set { return make(set, (numbers+63)/64) }

func (s set) add(k int) { s[k>>6] |= 1 << (k & 63) }

func (s set) has(k int) bool { return s[k>>6]>>(k&63)&1 != 0 }

func (s set) size() int {
	n := 0
	for _, w := range s {
		n += bits.OnesCount64(w)
	}
	return n
}

// join puts into s what is in t; both have the same length, here and below.
func (s set) join(t set) {
	for i, w := range t {
		s[i] |= w
	}
}

// keep leaves in s only what is in t, too.
func (s set) keep(t set) {
	for i, w := range t {
		s[i] &= w
	}
}

func (s set) meets(t set) bool {
	for i, w := range t {
		if s[i]&w != 0 {
			return true
		}
	}
	return false
}

func (s set) within(t set) bool {
	for i, w := range t {
		if s[i]&^w != 0 {
			return false
		}
	}
	return true
}

// each goes through the numbers, the least first.
func (s set) each(yield func(int) bool) {
	for i, w := range s {
		for ; w != 0; w &= w - 1 {
			if !yield(i<<6 + bits.TrailingZeros64(w)) {
				return
			}
		}
	}
}

// key is a text that sets share only if they are equal: the words that are not 0, each behind its place.
func (s set) key() string {
	var out []byte
	for i, w := range s {
		if w != 0 {
			out = appendWord(out, uint64(i))
			out = appendWord(out, w)
		}
	}
	return string(out)
}

func appendWord(out []byte, w uint64) []byte {
	return append(out, byte(w), byte(w>>8), byte(w>>16), byte(w>>24), byte(w>>32), byte(w>>40), byte(w>>48), byte(w>>56))
}
