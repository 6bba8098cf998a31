package brace

import (
	"iter"
	"strconv"
	"strings"

	"sieve/digits"
)

const maxDigits = 6

// rowTexts hands out the texts of a row, if what is between a `{` and its `}` is one's.
func rowTexts(inner string) (iter.Seq[string], bool) {
	one, other, _ := strings.Cut(inner, "..")
	for _, kind := range []struct {
		read func(s string) (int, bool)
		text func(n int) string
	}{
		{number, strconv.Itoa},
		{letter, func(n int) string { return string([]byte{byte(n)}) }},
	} {
		first, ok := kind.read(one)
		last, too := kind.read(other)
		if ok && too {
			return row(first, last, kind.text), true
		}
	}
	return nil, false
}

func number(s string) (int, bool) {
	rest, below := strings.CutPrefix(s, "-")
	n, ok := digits.Number(rest, maxDigits)
	if below {
		n = -n
	}
	return n, ok
}

func letter(s string) (int, bool) {
	if len(s) != 1 {
		return 0, false
	}
	c := s[0]
	return int(c), 'A' <= c && c <= 'Z' || 'a' <= c && c <= 'z'
}

// row hands out the texts of the numbers from the first to the last one, up or down.
func row(first, last int, text func(n int) string) iter.Seq[string] {
	step := 1
	if last < first {
		step = -1
	}
	return func(yield func(string) bool) {
		n := first
		for yield(text(n)) && n != last {
			n += step
		}
	}
}
