// Package path knows names and paths: see doc/01-path.md.
package path

import (
	"strings"

	"sieve/digits"
)

const maxDigits = 9

// Parts cuts a path (A1).
func Parts(s string) []string {
	var parts []string
	for part := range strings.SplitSeq(s, "/") {
		if part != "" {
			parts = append(parts, part)
		}
	}
	return parts
}

// Base tells its last name (A1).
func Base(s string) string {
	named := strings.TrimRight(s, "/")
	if named == "" && s != "" {
		return "/"
	}
	return named[strings.LastIndexByte(named, '/')+1:]
}

// Join puts two together (A1).
func Join(a string, b string) string {
	if a == "" || strings.HasSuffix(a, "/") {
		return a + b
	}
	return a + "/" + b
}

// Size tells how many bytes a text means (A2).
func Size(s string) (int, bool) {
	number, unit := cutUnit(s)
	n, ok := digits.Number(number, maxDigits)
	if !ok {
		return 0, false
	}
	return n * unit, true
}

// cutUnit tells what stands ahead of a size's letter, and how many bytes the
// letter means; a size without one counts blocks of 512.
func cutUnit(s string) (string, int) {
	if s == "" {
		return s, 0
	}
	ahead := s[:len(s)-1]
	switch s[len(s)-1] {
	case 'c':
		return ahead, 1
	case 'k':
		return ahead, 1 << 10
	case 'M':
		return ahead, 1 << 20
	case 'G':
		return ahead, 1 << 30
	}
	return s, 512
}
