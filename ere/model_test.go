package ere_test

import (
	"fmt"
	"math/big"
	"math/rand/v2"
	"regexp"
	"strings"
	"testing"

	"sieve/api"
	"sieve/ere"
)

// node is an expression that is known before it is written.
type node struct {
	kind        byte // 'a' an atom of one byte, '|', '&' a row, '(' brackets, '*' times
	written     string
	has         string // the bytes of an atom
	least, most int    // most below 0: no end
	kids        []node
}

// text is how the node is written, as the chapter has it.
func (n node) text() string {
	texts := make([]string, len(n.kids))
	for k := range n.kids {
		texts[k] = n.kids[k].text()
	}
	switch n.kind {
	case '|':
		return strings.Join(texts, "|")
	case '&':
		return strings.Join(texts, "")
	case '(':
		return "(" + texts[0] + ")"
	case '*':
		return texts[0] + n.written
	}
	return n.written
}

// golang is how Go's expressions write it, with a rune for each byte.
func (n node) golang() string {
	texts := make([]string, len(n.kids))
	for k := range n.kids {
		texts[k] = "(?:" + n.kids[k].golang() + ")"
	}
	switch n.kind {
	case '|':
		return strings.Join(texts, "|")
	case '&':
		return strings.Join(texts, "")
	case '(':
		return texts[0]
	case '*':
		if n.most < 0 {
			return fmt.Sprintf("%s{%d,}", texts[0], n.least)
		}
		return fmt.Sprintf("%s{%d,%d}", texts[0], n.least, n.most)
	}
	var out strings.Builder
	for k := range len(n.has) {
		fmt.Fprintf(&out, `\x{%x}`, n.has[k])
	}
	return "[" + out.String() + "]"
}

// sample is a text that the node means.
func (n node) sample(r *rand.Rand) string {
	var out strings.Builder
	switch n.kind {
	case '|':
		return n.kids[r.IntN(len(n.kids))].sample(r)
	case '&', '(':
		for _, kid := range n.kids {
			out.WriteString(kid.sample(r))
		}
	case '*':
		most := n.most
		if most < 0 {
			most = n.least + 3
		}
		for range n.least + r.IntN(most-n.least+1) {
			out.WriteString(n.kids[0].sample(r))
		}
	default:
		k := r.IntN(len(n.has))
		return n.has[k : k+1]
	}
	return out.String()
}

// atoms counts what the node has when its times are written out. place is where it stands; the first piece with too many is told in first.
func (n node) atoms(place int, first *int) *big.Int {
	sum := big.NewInt(0)
	switch n.kind {
	case 'a':
		return big.NewInt(1)
	case '*':
		copies := n.most
		if n.most < 0 {
			copies = n.least + 1
		}
		// The node within is no piece: it goes on with these times.
		return sum.Mul(big.NewInt(int64(copies)), n.kids[0].atoms(place, first))
	case '(':
		place++
	}
	for _, kid := range n.kids {
		count := kid.atoms(place, first)
		if n.kind == '&' && count.Cmp(big.NewInt(1000)) > 0 && *first < 0 {
			*first = place
		}
		sum.Add(sum, count)
		place += len(kid.text())
		if n.kind == '|' {
			place++
		}
	}
	return sum
}

// maker makes nodes at random.
type maker struct {
	*rand.Rand
	counts []int
}

func (m maker) expr(deep int) node {
	n := node{kind: '|'}
	for range 1 + m.IntN(5)/3 {
		n.kids = append(n.kids, m.branch(deep))
	}
	return n
}

func (m maker) branch(deep int) node {
	n := node{kind: '&'}
	for range 1 + m.IntN(3) {
		n.kids = append(n.kids, m.piece(deep))
	}
	return n
}

func (m maker) piece(deep int) node {
	n := m.atom(deep)
	for m.IntN(3) == 0 {
		n = m.times(n)
	}
	return n
}

func (m maker) times(of node) node {
	n := node{kind: '*', kids: []node{of}}
	low, high := m.counts[m.IntN(len(m.counts))], m.counts[m.IntN(len(m.counts))]
	low, high = min(low, high), max(low, high)
	switch m.IntN(6) {
	case 0:
		n.written, n.least, n.most = "*", 0, -1
	case 1:
		n.written, n.least, n.most = "+", 1, -1
	case 2:
		n.written, n.least, n.most = "?", 0, 1
	case 3:
		n.written, n.least, n.most = fmt.Sprintf("{%d}", low), low, low
	case 4:
		n.written, n.least, n.most = fmt.Sprintf("{%d,}", low), low, -1
	case 5:
		n.written, n.least, n.most = fmt.Sprintf("{%d,%d}", low, high), low, high
	}
	return n
}

func (m maker) atom(deep int) node {
	if deep > 0 && m.IntN(3) == 0 {
		return node{kind: '(', kids: []node{m.expr(deep - 1)}}
	}
	all := make([]byte, 256)
	for k := range all {
		all[k] = byte(k)
	}
	atoms := []node{
		{written: "a", has: "a"}, {written: "b", has: "b"}, {written: "]", has: "]"}, {written: "\xff", has: "\xff"}, {written: "\n", has: "\n"},
		{written: `\*`, has: "*"}, {written: `\\`, has: `\`}, {written: `\/`, has: "/"}, {written: ".", has: strings.ReplaceAll(string(all), "\n", "")},
		{written: "[ab]", has: "ab"}, {written: "[]a]", has: "]a"}, {written: `[\]`, has: `\`}, {written: "[!b]", has: "!b"}, {written: "[a-c]", has: "abc"},
		{written: "[^a]", has: strings.ReplaceAll(string(all), "a", "")}, {written: "[[:digit:]-]", has: "0123456789-"}, {written: "[\x80-\xff]", has: string(all[128:])},
	}
	n := atoms[m.IntN(len(atoms))]
	n.kind = 'a'
	return n
}

// runes is a text with a rune for each byte.
func runes(s string) string {
	out := make([]rune, len(s))
	for k := range len(s) {
		out[k] = rune(s[k])
	}
	return string(out)
}

// spoil changes a text a little.
func spoil(r *rand.Rand, s string) string {
	k := r.IntN(len(s) + 1)
	sign := []string{"a", "b", "]", "\\", "\n", "/", "\xff", ""}[r.IntN(8)]
	return s[:k] + sign + s[min(len(s), k+r.IntN(2)):]
}

// F1, F2: expressions at random mean what Go's expressions say.
func TestModelOfMeaning(t *testing.T) {
	m := maker{rand.New(rand.NewPCG(6, 1)), []int{0, 1, 2, 3}}
	for range 4000 {
		n := m.expr(3)
		s, first := n.text(), -1
		n.atoms(0, &first)
		if len(s) > 200 || first >= 0 {
			continue
		}
		like, err := regexp.Compile("^(?:" + n.golang() + ")$")
		if err != nil {
			continue // what Go finds too much
		}
		for range 6 {
			text := n.sample(m.Rand)
			if len(text) > 500 {
				continue
			}
			checkMatch(t, s, text, true)
			text = spoil(m.Rand, text)
			checkMatch(t, s, text, like.MatchString(runes(text)))
		}
		if t.Failed() {
			t.Fatalf("of %q", s)
		}
	}
}

// F1: expressions at random with many atoms.
func TestModelOfMany(t *testing.T) {
	m := maker{rand.New(rand.NewPCG(6, 2)), []int{0, 1, 2, 5, 9, 10, 25, 40, 100, 250, 255}}
	var seen [2]int
	for range 20000 {
		n := m.expr(3)
		s, first := n.text(), -1
		n.atoms(0, &first)
		if len(s) > 200 {
			continue
		}
		if first < 0 {
			seen[0]++
			checkError(t, s, api.OK, 0)
		} else {
			seen[1]++
			checkError(t, s, api.ErrMany, first)
		}
		if t.Failed() {
			t.Fatalf("of %q", s)
		}
	}
	if seen[0] < 1000 || seen[1] < 1000 {
		t.Errorf("%d of one kind and %d of the other", seen[0], seen[1])
	}
}

var (
	escaped = regexp.MustCompile(`\\[\^.\[\]$()|*+?{}\\/]`)
	counted = regexp.MustCompile(`\{[0-9]{1,3}(,([0-9]{1,3})?)?\}|[+?]`)
	plain   = regexp.MustCompile(`[^\^\[$()|*{\\]`)
	shorter = strings.NewReplacer("a*", "a", "aa", "a", "a|a", "a", "(a)", "a")
)

// valid tells whether a text without brackets is an expression, by making it shorter as long as that goes.
func valid(s string) bool {
	s = escaped.ReplaceAllString(s, "a")
	s = counted.ReplaceAllString(s, "*")
	s = plain.ReplaceAllStringFunc(s, func(c string) string {
		if c == "*" {
			return c
		}
		return "a"
	})
	for next := shorter.Replace(s); next != s; next = shorter.Replace(s) {
		s = next
	}
	return s == "a"
}

// viable tells whether an expression begins with a text.
func viable(s string) bool {
	for closed := range len(s) + 1 {
		for _, end := range []string{"", "a", "}", "1}", ".", "a}"} {
			if valid(s + end + strings.Repeat(")", closed)) {
				return true
			}
		}
	}
	return false
}

// modelPlace tells where a text without brackets is at fault, if it is.
func modelPlace(s string) (int, bool) {
	if valid(s) {
		return 0, false
	}
	for k := range len(s) {
		if viable(s[:k+1]) {
			continue
		}
		ahead := strings.TrimRight(s[:k], `\`)
		if (k-len(ahead))%2 == 1 {
			return k - 1, true
		}
		return k, true
	}
	return len(s), true
}

func checkPlace(t *testing.T, s string) {
	t.Helper()
	want := api.OK
	place, bad := modelPlace(s)
	if bad {
		want = api.ErrText
	}
	if _, errno, at := ere.Parse(s); errno != want || at != place {
		t.Errorf("Parse(%q) = %d %d, want %d %d", s, errno, at, want, place)
	}
}

// allTexts are all texts of up to a number of bytes of an alphabet.
func allTexts(alphabet string, most int) []string {
	out := []string{""}
	for k := 0; k < len(out); k++ {
		if len(out[k]) < most {
			for i := range len(alphabet) {
				out = append(out, out[k]+alphabet[i:i+1])
			}
		}
	}
	return out
}

// F1: all short texts of signs: whether they are expressions, and where they are not.
func TestModelOfPlaces(t *testing.T) {
	for _, c := range []struct {
		alphabet string
		most     int
	}{
		{`a()|*+?{}\^$.0,]/`, 3},
		{`a(|)*\`, 5},
		{`a{0,}`, 6},
		{`({0,})`, 5},
	} {
		for _, s := range allTexts(c.alphabet, c.most) {
			checkPlace(t, s)
			checkPlace(t, "a{"+s)
		}
	}
}

func FuzzParse(f *testing.F) {
	f.Add("(a|b{2,3})*[^x]\\.", "ab.")
	f.Fuzz(func(t *testing.T, s, text string) {
		e, errno, place := ere.Parse(s)
		in, other := ere.Match(s, text)
		if errno != other || in && errno != api.OK {
			t.Errorf("Parse(%q) = %d, Match(%q) = %t %d", s, errno, text, in, other)
		}
		if place < 0 || place > len(s) || errno == api.OK && place != 0 {
			t.Errorf("Parse(%q) = %d %d", s, errno, place)
		}
		if (errno == api.OK) != (e.Op != 0) {
			t.Errorf("Parse(%q) = %d and Op %d", s, errno, e.Op)
		}
		if len(s) <= 40 && !strings.Contains(s, "[") && (errno == api.OK || errno == api.ErrText) {
			checkPlace(t, s)
		}
	})
}
