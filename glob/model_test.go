package glob_test

import (
	"math/rand/v2"
	"strings"
	"testing"

	"sieve/api"
	"sieve/auto"
	"sieve/glob"
)

// model tells what a pattern means in another way: it goes through the pattern's text and s side by side and tries whatever a `*` may mean.
type model struct {
	s        string
	way, dot bool
}

// free tells whether a wild piece may mean the byte at a place.
func (m model) free(k int) bool {
	return k < len(m.s) && !(m.way && m.s[k] == '/')
}

// held tells whether a `.` at a beginning stands at a place: a wild piece must not be tried there.
func (m model) held(k int) bool {
	begins := k == 0 || m.way && m.s[k-1] == '/'
	return m.dot && begins && k < len(m.s) && m.s[k] == '.'
}

func (m model) match(p string, k int) bool {
	if p == "" {
		return k == len(m.s)
	}
	has, rest := modelBracket(p)
	wild := p[0] == '*' || p[0] == '?' || has != nil
	switch {
	case wild && m.held(k):
		return false
	case p[0] == '*':
		return m.match(p[1:], k) || m.free(k) && m.star(p[1:], k+1)
	case p[0] == '?':
		return m.free(k) && m.match(p[1:], k+1)
	case has != nil:
		return m.free(k) && has[m.s[k]] && m.match(rest, k+1)
	case p[0] == '\\':
		p = p[1:]
	}
	return k < len(m.s) && p[0] == m.s[k] && m.match(p[1:], k+1)
}

// star goes on behind a `*` that means at least one byte.
func (m model) star(p string, k int) bool {
	return m.match(p, k) || m.free(k) && m.star(p, k+1)
}

// modelBracket tells what a bracket has, and what is behind it; nil, if a text begins with none.
func modelBracket(p string) (map[byte]bool, string) {
	if p == "" || p[0] != '[' {
		return nil, ""
	}
	rest, not := p[1:], false
	if rest != "" && strings.Contains("!^", rest[:1]) {
		rest, not = rest[1:], true
	}
	has := map[byte]bool{}
	for parts := 0; ; parts++ {
		if rest == "" {
			return nil, ""
		}
		if rest[0] == ']' && parts > 0 {
			break
		}
		low, high := 0, 0
		low, high, rest = modelPart(rest)
		for b := low; b <= high; b++ {
			has[byte(b)] = true
		}
	}
	out := map[byte]bool{}
	for b := range 256 {
		if has[byte(b)] != not {
			out[byte(b)] = true
		}
	}
	return out, rest[1:]
}

// modelPart tells the bytes between which a part has all. (The only class here is digit.)
func modelPart(rest string) (int, int, string) {
	if r, ok := strings.CutPrefix(rest, "[:digit:]"); ok {
		return '0', '9', r
	}
	low, rest := modelItem(rest)
	if len(rest) > 1 && rest[0] == '-' && rest[1] != ']' {
		high, rest := modelItem(rest[1:])
		return low, high, rest
	}
	return low, low, rest
}

func modelItem(rest string) (int, string) {
	if rest[0] == '\\' && len(rest) > 1 {
		return int(rest[1]), rest[2:]
	}
	return int(rest[0]), rest[1:]
}

// checkModel holds all calls for a pattern and a text against the model; a pattern that is none is left.
func checkModel(t *testing.T, pattern, s string) {
	t.Helper()
	for _, w := range ways {
		e, errno, _ := glob.Parse(pattern, w.way)
		if errno != api.OK {
			return
		}
		want := model{s, w.way, w.dot}.match(pattern, 0)
		if got, errno := glob.Match(pattern, s, w.way, w.dot); got != want || errno != api.OK {
			t.Fatalf("Match(%q, %q, %t, %t) = %t %d, want %t 0", pattern, s, w.way, w.dot, got, errno, want)
		}
		if !w.dot && auto.Match(e, s) != want {
			t.Fatalf("Parse(%q, %t) means %q: %t, want %t", pattern, w.way, s, !want, want)
		}
	}
}

// allTexts are all texts of up to a number of bytes of an alphabet.
func allTexts(alphabet string, most int) []string {
	out := []string{""}
	for k := 0; k < len(out); k++ {
		if len(out[k]) < most {
			for i := range len(alphabet) {
				out = append(out, out[k]+alphabet[i:i+1])
			}
		}
	}
	return out
}

// D2: all short patterns of the signs that way and dot speak of, with all short texts.
func TestModelOfWays(t *testing.T) {
	texts := allTexts("a./", 3)
	for _, pattern := range allTexts("a*?./", 4) {
		for _, s := range texts {
			checkModel(t, pattern, s)
		}
	}
}

// D1, D2: all short patterns of the signs of brackets, with the bytes that they may mean.
func TestModelOfBrackets(t *testing.T) {
	texts := append(allTexts("[]-!\\a", 1), "[]", "[a]", "a]", "[-]")
	for _, pattern := range allTexts("[]-!\\a", 4) {
		for _, s := range texts {
			checkModel(t, "["+pattern, s)
		}
	}
}

// D1, D2: patterns of pieces at random, with texts that are near to what they mean.
func TestModelAtRandom(t *testing.T) {
	r := rand.New(rand.NewPCG(4, 1))
	pieces := []string{"a", "b", ".", "/", "*", "?", "\\*", "\\.", "\\/", "[ab]", "[!a]", "[^/]", "[.-0]", "[]a]", "[[:digit:]x]", "[", "]", "-", "[b-a]", "\xff", "[\x80-\xff]"}
	signs := []string{"a", "b", ".", "/", "x", "5", "*", "]", "[", "\xff"}
	pick := func(from []string, most int) string {
		var out strings.Builder
		for range r.IntN(most + 1) {
			out.WriteString(from[r.IntN(len(from))])
		}
		return out.String()
	}
	for range 30000 {
		checkModel(t, pick(pieces, 7), pick(signs, 7))
	}
}

func FuzzMatch(f *testing.F) {
	f.Add("*[a-c]?\\*", "xby*")
	f.Fuzz(func(t *testing.T, pattern, s string) {
		// The model tries all that stars may mean, and knows one class.
		if len(pattern) > 30 || len(s) > 30 || strings.Count(pattern, "*") > 4 || strings.Contains(strings.ReplaceAll(pattern, "[:digit:]", ""), "[:") {
			return
		}
		checkModel(t, pattern, s)
	})
}
