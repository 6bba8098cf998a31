package digits_test

import (
	"testing"

	"sieve/digits"
)

func TestNumber(t *testing.T) {
	for _, c := range []struct {
		s    string
		most int
		want int
		ok   bool
	}{
		{"0", 9, 0, true},
		{"7", 1, 7, true},
		{"10", 1, 0, false},
		{"000000012", 9, 12, true},
		{"999999999", 9, 999999999, true},
		{"1000000000", 9, 0, false},
		{"0000000001", 9, 0, false},
		{"", 9, 0, false},
		{"", 0, 0, false},
		{"1", 0, 0, false},
		{"1", -1, 0, false},
		{"-1", 9, 0, false},
		{"+1", 9, 0, false},
		{" 1", 9, 0, false},
		{"1 ", 9, 0, false},
		{"1_0", 9, 0, false},
		{"0x1", 9, 0, false},
		{"/", 9, 0, false},
		{":", 9, 0, false},
		{"١", 9, 0, false},
	} {
		if got, ok := digits.Number(c.s, c.most); got != c.want || ok != c.ok {
			t.Errorf("Number(%q, %d) = %d, %v, want %d, %v", c.s, c.most, got, ok, c.want, c.ok)
		}
	}
}
