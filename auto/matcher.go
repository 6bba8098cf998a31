package auto

import "sieve/api"

// maxKept is how many sets of states a Matcher takes along to the next text; with more it begins anew, so that they do not fill the memory.
const maxKept = 1000

// Matcher makes a Match of one set of texts, for many of them: what a byte leads to is worked out only once, which pays where texts begin alike, as paths do.
func Matcher(e api.Expr) func(s string) bool {
	a := build(&e)
	far := a.distances(a.turned())
	known := newSubsets(a, far)
	first := known.first()
	return func(s string) bool {
		if len(known.sets) > maxKept {
			known = newSubsets(a, far)
			first = known.first()
		}
		at := first
		for i := range len(s) {
			at = known.after(at, known.of[s[i]])
		}
		return known.accepts(at)
	}
}
