package auto

import "slices"

// subsets are the sets of states that texts lead to, worked out and numbered as they are asked for.
type subsets struct {
	*automaton
	kinds
	kept    set // the states by which such a set is known
	sets    []set
	next    [][]int // for each set and kind of byte the set behind it, or none as yet
	numbers map[string]int
	room    set
}

func newSubsets(a *automaton, far []int) *subsets {
	return &subsets{
		automaton: a,
		kinds:     newKinds(a.bytes),
		kept:      a.telling(far),
		numbers:   map[string]int{},
		room:      newSet(len(a.out)),
	}
}

// telling is the end and each state with a byte on a way to it: what is reached from the others without a byte tells all of them.
func (a *automaton) telling(far []int) set {
	kept := newSet(len(a.out))
	kept.add(a.end)
	for k := range a.out {
		for w := range a.from(k) {
			if w.by != free && far[w.to] != none {
				kept.add(k)
			}
		}
	}
	return kept
}

// first is the number of the set in which nothing has been read.
func (s *subsets) first() int {
	copy(s.room, s.opening())
	return s.number()
}

// after is the number of the set that a byte of a kind leads to.
func (s *subsets) after(k, kind int) int {
	if s.next[k] == nil {
		s.next[k] = slices.Repeat([]int{none}, len(s.lows))
	}
	if n := s.next[k][kind]; n != none {
		return n
	}
	clear(s.room)
	s.step(s.sets[k], s.room, s.lows[kind])
	n := s.number()
	s.next[k][kind] = n
	return n
}

// number numbers the set that stands in room, if it is new.
func (s *subsets) number() int {
	s.room.keep(s.kept)
	key := s.room.key()
	n, ok := s.numbers[key]
	if !ok {
		n = len(s.sets)
		s.numbers[key] = n
		s.sets = append(s.sets, slices.Clone(s.room))
		s.next = append(s.next, nil)
	}
	return n
}

func (s *subsets) accepts(k int) bool { return s.sets[k].has(s.end) }
