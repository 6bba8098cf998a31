package auto_test

import (
	"math/rand/v2"
	"testing"

	"sieve/auto"
)

// One Matcher answers of many texts what Match does.
func TestMatcher(t *testing.T) {
	for _, c := range samples() {
		in := auto.Matcher(c.e)
		for range 2 {
			for _, s := range c.in {
				if !in(s) {
					t.Errorf("%s: %q is not in it", c.name, s)
				}
			}
			for _, s := range c.out {
				if in(s) {
					t.Errorf("%s: %q is in it", c.name, s)
				}
			}
		}
	}
}

func TestMatcherModel(t *testing.T) {
	r := rand.New(rand.NewPCG(1, 7))
	for range 3000 {
		e := randomExpr(r, 4)
		in := auto.Matcher(e)
		for _, s := range texts(r) {
			if got := in(s); got != modelMatch(e, s) {
				t.Fatalf("Matcher(%v)(%q) = %v", e, s, got)
			}
		}
	}
}

// With more sets of states than are kept, so that it begins anew now and then, also with texts that have more by themselves.
func TestMatcherOfManySets(t *testing.T) {
	const last = 14
	r := rand.New(rand.NewPCG(1, 8))
	in := auto.Matcher(lastBut(last))
	for _, length := range []int{0, 1, last, last + 1, 40, 5000, 30, 20000, last + 1, 100} {
		for range 50 {
			s := make([]byte, length)
			for k := range s {
				s[k] = "ab"[r.IntN(2)]
			}
			want := length > last && s[length-1-last] == 'a'
			if in(string(s)) != want {
				t.Fatalf("of a text of %d bytes the answer is %v", length, !want)
			}
		}
	}
}

// A set that is changed once a Matcher has been made of it does not change the Matcher.
func TestMatcherKeepsNothing(t *testing.T) {
	e := choice(one("a"), row(one("b"), one("c")))
	in := auto.Matcher(e)
	e.Kids[0].Set, e.Kids[1].Kids[0].Op = "x", 0
	if !in("a") || !in("bc") || in("x") {
		t.Error("the Matcher has changed")
	}
}
