package auto

import "sieve/api"

// maxStates bounds how many kinds of texts there may be; maxSpare how many tests there are ahead of which one more is made only if it is needed.
const (
	maxStates = 500
	maxSpare  = 2 * maxStates
)

// least is the automaton with the fewest states: they are the kinds of texts that are not alike.
type least struct {
	kinds
	next [][]int // for each state and kind of byte
	ends []bool  // whether a text of the state is in the set
}

// table tells texts apart. Each head is a set of states that stands for the texts alike to one that leads to it; tests tell all heads apart.
type table struct {
	*subsets
	back   *states
	known  *likeness
	far    []int
	heads  []int
	tests  []set // each: the states from which one text leads to the end
	tested map[string]int
	rows   []set // for each head the tests that it passes
	byRow  map[string]int
	homes  map[int]int // the head of a set for which it is known
}

func newTable(a *automaton) *table {
	back := a.turned()
	far := a.distances(back)
	t := &table{
		subsets: newSubsets(a, far),
		back:    back,
		known:   &likeness{},
		far:     far,
		tested:  map[string]int{},
		byRow:   map[string]int{},
		homes:   map[int]int{},
	}
	t.learn(nil)
	return t
}

// learnLeast answers the least automaton of a set of texts, or ErrMany.
func learnLeast(e *api.Expr) (*least, api.Errno) {
	t := newTable(build(e))
	l := &least{kinds: t.kinds}
	if t.home(t.first()) == none {
		return nil, api.ErrMany
	}
	for k := 0; k < len(t.heads); k++ {
		l.ends = append(l.ends, t.accepts(t.heads[k]))
		next := make([]int, len(t.lows))
		for kind := range next {
			next[kind] = t.home(t.after(t.heads[k], kind))
			if next[kind] == none {
				return nil, api.ErrMany
			}
		}
		l.next = append(l.next, next)
	}
	return l, api.OK
}

// home tells which head a set is alike to, a new one if there has been none; none, if there are too many.
func (t *table) home(k int) int {
	if n, ok := t.homes[k]; ok {
		return n
	}
again:
	row := t.row(k)
	n, ok := t.byRow[row.key()]
	if !ok {
		return t.newHead(k, row)
	}
	if text, ok := t.apart(t.known, k, t.heads[n]); ok {
		// Its ends are shortest texts for others, and each of them tells more apart than the shorter ones do.
		if len(text) >= maxStates {
			return none
		}
		t.learn(text)
		goto again
	}
	t.homes[k] = n
	return n
}

// row tells which tests a set passes.
func (t *table) row(k int) set {
	row := newSet(maxSpare + maxStates)
	for i, test := range t.tests {
		if t.sets[k].meets(test) {
			row.add(i)
		}
	}
	return row
}

func (t *table) newHead(k int, row set) int {
	if len(t.heads) == maxStates || t.distance(k) >= maxStates {
		return none
	}
	n := len(t.heads)
	t.heads = append(t.heads, k)
	t.rows = append(t.rows, row)
	t.byRow[row.key()] = n
	t.homes[k] = n
	return n
}

// distance is the length of the shortest text that leads from a set to the end: no two sets on its way are alike.
func (t *table) distance(k int) int {
	out := none
	for q := range t.sets[k].each {
		if out == none || t.far[q] < out {
			out = t.far[q]
		}
	}
	return out
}

// learn makes a test of a text, which is told by the kinds of its bytes. The ends of a shortest text that tells two sets apart do so for others: they are tests to spare.
func (t *table) learn(text []int) {
	test := newSet(len(t.out))
	t.back.reach(test, t.end)
	for i := len(text) - 1; i >= 0; i-- {
		t.spare(test)
		ahead := newSet(len(t.out))
		t.back.step(test, ahead, t.lows[text[i]])
		test = ahead
	}
	t.addTest(test)
	t.byRow = map[string]int{}
	for n, row := range t.rows {
		t.byRow[row.key()] = n
	}
}

func (t *table) spare(test set) {
	if _, ok := t.tested[test.key()]; !ok && len(t.tests) < maxSpare {
		t.addTest(test)
	}
}

func (t *table) addTest(test set) {
	for n, k := range t.heads {
		if t.sets[k].meets(test) {
			t.rows[n].add(len(t.tests))
		}
	}
	t.tested[test.key()] = len(t.tests)
	t.tests = append(t.tests, test)
}
