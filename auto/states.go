package auto

// none stands where there is no number.
const none = -1

// free is the mark of a way that takes no byte.
const free = -1

// way leads from one state to another.
type way struct {
	to   int
	by   int // which set of bytes leads along it, or free
	then int // the next way out of the same state, or none
}

// states are numbered from 0 on; the ways out of one hang together as a chain, so that a great set costs no list for each state.
type states struct {
	out   []int // the first way out of each state, or none
	ways  []way
	bytes []set
}

func (s *states) grow() int {
	s.out = append(s.out, none)
	return len(s.out) - 1
}

func (s *states) link(from, to, by int) {
	s.ways = append(s.ways, way{to, by, s.out[from]})
	s.out[from] = len(s.ways) - 1
}

// from goes through the ways out of a state.
func (s *states) from(k int) func(yield func(way) bool) {
	return func(yield func(way) bool) {
		for i := s.out[k]; i != none; i = s.ways[i].then {
			if !yield(s.ways[i]) {
				return
			}
		}
	}
}

// reach puts a state into a set, and all that is reached from it without a byte. It keeps a list of its own of what is to be looked at, as ways may be longer than a call stack.
func (s *states) reach(into set, k int) {
	if into.has(k) {
		return
	}
	into.add(k)
	open := []int{k}
	for len(open) > 0 {
		last := len(open) - 1
		k, open = open[last], open[:last]
		for w := range s.from(k) {
			if w.by == free && !into.has(w.to) {
				into.add(w.to)
				open = append(open, w.to)
			}
		}
	}
}

// step puts into a set what a byte leads to from another one.
func (s *states) step(from, into set, b byte) {
	for k := range from.each {
		for w := range s.from(k) {
			if w.by != free && s.bytes[w.by].has(int(b)) {
				s.reach(into, w.to)
			}
		}
	}
}

// turned is the same states with every way turned round.
func (s *states) turned() *states {
	back := &states{bytes: s.bytes}
	for range s.out {
		back.grow()
	}
	for k := range s.out {
		for w := range s.from(k) {
			back.link(w.to, k, w.by)
		}
	}
	return back
}
