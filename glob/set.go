package glob

// set has a place for each byte: whether it is in it.
type set [256]bool

func (s *set) add(low, high byte) {
	for c := int(low); c <= int(high); c++ {
		s[c] = true
	}
}

func (s *set) addClass(has func(c byte) bool) {
	for c := range len(s) {
		s[c] = s[c] || has(byte(c))
	}
}

func (s *set) turn() {
	for c := range s {
		s[c] = !s[c]
	}
}

// text is the set's bytes, as an Expr has them.
func (s *set) text() string {
	out := make([]byte, 0, len(s))
	for c, in := range s {
		if in {
			out = append(out, byte(c))
		}
	}
	return string(out)
}
