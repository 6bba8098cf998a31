package auto

import (
	"cmp"
	"slices"
)

// What groups of sets make of a set spares steps where they make the same of two, and costs time where they do not: maxHeld bounds how many sets one is held against, maxMisses how often in a row that may be for nothing.
const (
	maxHeld   = 10 * maxStates
	maxMisses = 2 * maxStates
)

// group is numbered sets of states that lead to the end by the same texts, as does what they are together.
type group struct {
	members  []int
	together set
}

// likeness is what is taken to be alike among the numbered sets.
type likeness struct {
	in     []int // the group of each set, or none
	groups []group
}

// clone is a likeness that may be added to while the old one stays.
func (l *likeness) clone() *likeness {
	groups := slices.Clone(l.groups)
	for i := range groups {
		groups[i].members = slices.Clip(groups[i].members)
	}
	return &likeness{slices.Clone(l.in), groups}
}

func (l *likeness) groupOf(k int) int {
	for len(l.in) <= k {
		l.in = append(l.in, none)
	}
	return l.in[k]
}

func (l *likeness) same(a, b int) bool {
	return a == b || l.groupOf(a) != none && l.groupOf(a) == l.groupOf(b)
}

// add takes two sets, and all that are in their groups, to be alike.
func (l *likeness) add(s *subsets, a, b int) {
	one, other := l.join(s, a), l.join(s, b)
	if len(l.groups[one].members) < len(l.groups[other].members) {
		one, other = other, one
	}
	into, from := &l.groups[one], &l.groups[other]
	for _, k := range from.members {
		l.in[k] = one
	}
	into.members = append(into.members, from.members...)
	into.together = slices.Clone(into.together)
	into.together.join(from.together)
	*from = group{}
	if other == len(l.groups)-1 {
		l.groups = l.groups[:other]
	}
}

// join answers the group of a set, which is alone in it if there was none.
func (l *likeness) join(s *subsets, k int) int {
	if l.groupOf(k) == none {
		l.in[k] = len(l.groups)
		l.groups = append(l.groups, group{[]int{k}, s.sets[k]})
	}
	return l.in[k]
}

// follows tells whether two sets must be alike if all that has been added is: what is alike stays so with the same states added to both.
func (l *likeness) follows(s *subsets, a, b int) bool {
	return slices.Equal(l.fullest(s, a), l.fullest(s, b))
}

// fullest is the greatest set that the groups make of one.
func (l *likeness) fullest(s *subsets, k int) set {
	full := slices.Clone(s.sets[k])
again:
	left := maxHeld
	for _, g := range l.groups {
		most := min(left, len(g.members))
		left -= most
		if most > 0 && !g.together.within(full) && s.anyWithin(g.members[:most], full) {
			full.join(g.together)
			goto again
		}
	}
	return full
}

func (s *subsets) anyWithin(members []int, full set) bool {
	for _, k := range members {
		if s.sets[k].within(full) {
			return true
		}
	}
	return false
}

// meeting is two sets that one text leads to.
type meeting struct {
	one, other int
	kind       int // the last byte's
	from       int // the meeting ahead of that byte
	size       int
}

// search looks for a text that tells two sets apart.
type search struct {
	*subsets
	guess    *likeness
	misses   int
	meetings []meeting
	seen     map[struct{ one, other int }]int
}

// apart answers the kinds of the bytes of a shortest text that leads to the end from one alone of two sets, and true. If there is none, the likeness that follows is added to what is known.
func (s *subsets) apart(known *likeness, a, b int) ([]int, bool) {
	f := &search{subsets: s, guess: known.clone(), seen: map[struct{ one, other int }]int{}}
	f.meet(a, b, none, none)
	for begin := 0; begin < len(f.meetings); {
		end := len(f.meetings)
		if k := f.unlike(begin, end); k != none {
			return f.text(k), true
		}
		for _, k := range f.order(begin, end) {
			f.follow(k)
		}
		begin = end
	}
	*known = *f.guess
	return nil, false
}

func (f *search) meet(a, b, kind, from int) {
	key := struct{ one, other int }{a, b}
	if _, ok := f.seen[key]; ok || f.guess.same(a, b) {
		return
	}
	f.seen[key] = len(f.meetings)
	f.meetings = append(f.meetings, meeting{a, b, kind, from, f.sets[a].size() + f.sets[b].size()})
}

// unlike is the first of some meetings at which one set alone has the end.
func (f *search) unlike(begin, end int) int {
	for k := begin; k < end; k++ {
		if f.accepts(f.meetings[k].one) != f.accepts(f.meetings[k].other) {
			return k
		}
	}
	return none
}

// order has meetings of small sets first, as these are within more sets.
func (f *search) order(begin, end int) []int {
	var out []int
	for k := begin; k < end; k++ {
		out = append(out, k)
	}
	slices.SortStableFunc(out, func(a, b int) int {
		return cmp.Compare(f.meetings[a].size, f.meetings[b].size)
	})
	return out
}

// follow takes two sets to be alike, so that what each byte leads to must be alike, too.
func (f *search) follow(k int) {
	m := f.meetings[k]
	if f.settled(m.one, m.other) {
		return
	}
	f.guess.add(f.subsets, m.one, m.other)
	for kind := range f.lows {
		f.meet(f.after(m.one, kind), f.after(m.other, kind), kind, k)
	}
}

// settled tells whether two sets are known to be alike, as far as that is found out with bounded patience.
func (f *search) settled(a, b int) bool {
	if f.guess.same(a, b) {
		return true
	}
	if f.misses == maxMisses {
		return false
	}
	if f.guess.follows(f.subsets, a, b) {
		f.misses = 0
		return true
	}
	f.misses++
	return false
}

// text is the kinds of the bytes that lead to a meeting.
func (f *search) text(k int) []int {
	var out []int
	for ; f.meetings[k].from != none; k = f.meetings[k].from {
		out = append(out, f.meetings[k].kind)
	}
	slices.Reverse(out)
	return out
}
