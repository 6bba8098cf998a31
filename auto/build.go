package auto

import "sieve/api"

// What the Op of an Expr says; of another one nothing is meant, as of 0.
const (
	OpEmpty  = 1
	OpByte   = 2
	OpRow    = 3
	OpChoice = 4
	OpAgain  = 5
)

// automaton knows a set of texts: those that lead from its start to its end.
type automaton struct {
	states
	start, end int
}

// span says that an Expr's texts are still to lead from one state to another.
type span struct {
	e        *api.Expr
	from, to int
}

// builder lays the parts of an Expr. What is still to be laid stands in a list, as an Expr may be deeper than a call stack.
type builder struct {
	automaton
	open  []span
	known map[string]int // which set of bytes a text of them stands for
}

func build(e *api.Expr) *automaton {
	b := &builder{known: map[string]int{}}
	b.start, b.end = b.grow(), b.grow()
	b.leave(e, b.start, b.end)
	for len(b.open) > 0 {
		last := len(b.open) - 1
		s := b.open[last]
		b.open = b.open[:last]
		b.lay(s)
	}
	return &b.automaton
}

func (b *builder) leave(e *api.Expr, from, to int) {
	b.open = append(b.open, span{e, from, to})
}

func (b *builder) lay(s span) {
	switch s.e.Op {
	case OpEmpty:
		b.link(s.from, s.to, free)
	case OpByte:
		b.layByte(s)
	case OpRow:
		b.layRow(s)
	case OpChoice:
		b.layChoice(s.e.Kids, s.from, s.to)
	case OpAgain:
		// A state of its own, as what comes back to it must not come back to what stands ahead.
		hub := b.grow()
		b.link(s.from, hub, free)
		b.link(hub, s.to, free)
		b.layChoice(s.e.Kids, hub, hub)
	}
}

func (b *builder) layByte(s span) {
	if s.e.Set == "" {
		return
	}
	n, ok := b.known[s.e.Set]
	if !ok {
		n = len(b.bytes)
		b.known[s.e.Set] = n
		b.bytes = append(b.bytes, bytesOf(s.e.Set))
	}
	b.link(s.from, s.to, n)
}

func bytesOf(text string) set {
	out := newSet(256)
	for i := range len(text) {
		out.add(int(text[i]))
	}
	return out
}

func (b *builder) layRow(s span) {
	kids := s.e.Kids
	if len(kids) == 0 {
		b.link(s.from, s.to, free)
		return
	}
	at := s.from
	for i := range kids[:len(kids)-1] {
		next := b.grow()
		b.leave(&kids[i], at, next)
		at = next
	}
	b.leave(&kids[len(kids)-1], at, s.to)
}

func (b *builder) layChoice(kids []api.Expr, from, to int) {
	for i := range kids {
		b.leave(&kids[i], from, to)
	}
}

// opening is the set of states in which nothing has been read.
func (a *automaton) opening() set {
	s := newSet(len(a.out))
	a.reach(s, a.start)
	return s
}

// distances tells for each state how many bytes the shortest text from it to the end has; none, if there is no such text.
func (a *automaton) distances(back *states) []int {
	far := make([]int, len(a.out))
	for k := range far {
		far[k] = none
	}
	level := []int{a.end}
	for d := 0; len(level) > 0; d++ {
		level = back.spread(far, level, d)
	}
	return far
}

// spread notes a distance for the states of a level and those that they reach without a byte, and answers the next level.
func (s *states) spread(far, level []int, distance int) []int {
	var next []int
	for len(level) > 0 {
		last := len(level) - 1
		k := level[last]
		level = level[:last]
		if far[k] != none {
			continue
		}
		far[k] = distance
		for w := range s.from(k) {
			if w.by == free {
				level = append(level, w.to)
			} else {
				next = append(next, w.to)
			}
		}
	}
	return next
}
