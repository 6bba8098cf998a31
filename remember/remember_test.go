package remember_test

import (
	"slices"
	"testing"

	"sieve/remember"
)

func TestAnswersAsksOnce(t *testing.T) {
	var asked []string
	long := remember.Answers(func(s string) bool {
		asked = append(asked, s)
		return len(s) > 1
	})
	for range 3 {
		for s, want := range map[string]bool{"": false, "a": false, "ab": true, "abc": true} {
			if long(s) != want {
				t.Errorf("of %q the answer is %v", s, !want)
			}
		}
	}
	slices.Sort(asked)
	if !slices.Equal(asked, []string{"", "a", "ab", "abc"}) {
		t.Errorf("asked were %q", asked)
	}
}

// An answer of nothing is remembered like any other.
func TestAnswersOfNothing(t *testing.T) {
	times := 0
	none := remember.Answers(func(int) []string {
		times++
		return nil
	})
	if none(7) != nil || none(7) != nil || times != 1 {
		t.Errorf("asked %d times", times)
	}
}

// Each function has a memory of its own.
func TestAnswersApart(t *testing.T) {
	one := remember.Answers(func(k int) int { return k })
	two := remember.Answers(func(k int) int { return 2 * k })
	if one(3) != 3 || two(3) != 6 || one(3) != 3 {
		t.Error("one function answers for the other")
	}
}
