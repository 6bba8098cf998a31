package auto_test

import (
	"math"
	"reflect"
	"strings"
	"testing"

	"sieve/api"
	"sieve/auto"
)

func none() api.Expr                   { return api.Expr{Op: 0} }
func empty() api.Expr                  { return api.Expr{Op: 1} }
func one(set string) api.Expr          { return api.Expr{Op: 2, Set: set} }
func row(kids ...api.Expr) api.Expr    { return api.Expr{Op: 3, Kids: kids} }
func choice(kids ...api.Expr) api.Expr { return api.Expr{Op: 4, Kids: kids} }
func again(kids ...api.Expr) api.Expr  { return api.Expr{Op: 5, Kids: kids} }

// word is a text alone.
func word(s string) api.Expr {
	e := row()
	for i := range len(s) {
		e.Kids = append(e.Kids, one(s[i:i+1]))
	}
	return e
}

func times(e api.Expr, n int) api.Expr {
	r := row()
	for range n {
		r.Kids = append(r.Kids, e)
	}
	return r
}

func allBytes() string {
	var s []byte
	for b := range 256 {
		s = append(s, byte(b))
	}
	return string(s)
}

type sample struct {
	name    string
	e       api.Expr
	states  int
	in, out []string
}

func samples() []sample {
	all := allBytes()
	return []sample{
		{"none", none(), 1, nil, []string{"", "a"}},
		{"none with Set and Kids", api.Expr{Op: 0, Set: "a", Kids: []api.Expr{empty(), one("a")}}, 1, nil, []string{"", "a"}},
		{"empty", empty(), 2, []string{""}, []string{"a", "\x00"}},
		{"empty with Set and Kids", api.Expr{Op: 1, Set: "a", Kids: []api.Expr{one("a")}}, 2, []string{""}, []string{"a"}},
		{"byte", one("a"), 3, []string{"a"}, []string{"", "b", "aa", "A"}},
		{"bytes", one("ca"), 3, []string{"a", "c"}, []string{"", "b", "ac", "ca"}},
		{"a byte twice", one("aba"), 3, []string{"a", "b"}, []string{"", "aba", "c"}},
		{"no byte", one(""), 1, nil, []string{"", "a"}},
		{"byte with Kids", api.Expr{Op: 2, Set: "a", Kids: []api.Expr{one("b")}}, 3, []string{"a"}, []string{"", "b", "ab"}},
		{"every byte", one(all), 3, []string{"\x00", "\n", "/", "\x7f", "\x80", "\xff"}, []string{"", "ab"}},
		{"bytes, not runes", one("ä"), 3, []string{"\xc3", "\xa4"}, []string{"ä", ""}},
		{"a rune's bytes", word("ä"), 4, []string{"ä"}, []string{"\xc3", "\xa4"}},
		{"row of none", row(), 2, []string{""}, []string{"a"}},
		{"row with Set", api.Expr{Op: 3, Set: "a"}, 2, []string{""}, []string{"a"}},
		{"row of one", row(one("a")), 3, []string{"a"}, []string{"", "aa"}},
		{"row of three", word("abc"), 5, []string{"abc"}, []string{"", "ab", "acb", "cba", "abcc", "bc"}},
		{"row with nothing in it", row(one("a"), none(), one("b")), 1, nil, []string{"", "ab", "a", "b"}},
		{"row with the empty text in it", row(one("a"), empty(), one("b")), 4, []string{"ab"}, []string{"", "a", "b"}},
		{"choice of none", choice(), 1, nil, []string{"", "a"}},
		{"choice with Set", api.Expr{Op: 4, Set: "a"}, 1, nil, []string{"", "a"}},
		{"choice of one", choice(word("ab")), 4, []string{"ab"}, []string{"", "a", "b", "abab"}},
		{"choice of three", choice(word("ab"), one("c"), empty()), 4, []string{"", "ab", "c"}, []string{"a", "b", "abc", "cc"}},
		{"choice with nothing in it", choice(none(), one("a")), 3, []string{"a"}, []string{""}},
		{"again of none", again(), 2, []string{""}, []string{"a"}},
		{"again with Set", api.Expr{Op: 5, Set: "a"}, 2, []string{""}, []string{"a"}},
		{"again of one", again(one("a")), 2, []string{"", "a", "aaaa"}, []string{"b", "aab", "baa"}},
		{"again of two", again(word("ab"), one("c")), 3, []string{"", "ab", "c", "cab", "abc", "abab", "cc", "ccabc"}, []string{"a", "b", "acb", "cb"}},
		{"again of three", again(one("b"), one("a"), one("c")), 2, []string{"", "abc", "cab", "bbb"}, []string{"abd"}},
		{"again of nothing", again(none()), 2, []string{""}, []string{"a"}},
		{"again of the empty text", again(empty()), 2, []string{""}, []string{"a"}},
		{"again of again", again(again(one("a")), again(again())), 2, []string{"", "aa"}, []string{"b"}},
		{"again of every byte", again(one(all)), 1, []string{"", "a", all, "\x00\xff"}, nil},
		{"again ahead of its end", row(again(one("a")), one("a")), 3, []string{"a", "aaa"}, []string{"", "b", "ab"}},
		{"agains in a row", row(again(one("a")), again(one("b"))), 3, []string{"", "aabb", "bb", "aa"}, []string{"ba", "aba"}},
		{"again within a choice", choice(again(one("a")), one("b")), 4, []string{"", "aa", "b"}, []string{"ab", "ba", "bb"}},
		{"choice within a row", row(choice(one("a"), empty()), one("b")), 4, []string{"ab", "b"}, []string{"", "a", "aab"}},
		{"what is alike is one", choice(word("ac"), word("bc")), 4, []string{"ac", "bc"}, []string{"c", "ab"}},
		{"a way that does not end", choice(row(one("a"), one("b"), none()), one("c")), 3, []string{"c"}, []string{"ab", "a"}},
		{"all but one", choice(empty(), row(one(all[1:]), again(one(all))), row(one(all[:1]), one(all), again(one(all)))), 3, []string{"", "a", "\x00\x00"}, []string{"\x00"}},
		{"last but one", row(again(one("ab")), one("a"), one("ab")), 5, []string{"aa", "ab", "bbab"}, []string{"", "a", "ba", "aba"}},
		{"Op 6", api.Expr{Op: 6, Set: "a", Kids: []api.Expr{one("a")}}, 1, nil, []string{"", "a"}},
		{"Op -1", api.Expr{Op: -1, Set: "a", Kids: []api.Expr{one("a")}}, 1, nil, []string{"", "a"}},
		{"Op 256 + 2", api.Expr{Op: 258, Set: "a"}, 1, nil, []string{"", "a"}},
		{"greatest Op", api.Expr{Op: math.MaxInt, Kids: []api.Expr{empty()}}, 1, nil, []string{"", "a"}},
		{"least Op", api.Expr{Op: math.MinInt, Kids: []api.Expr{empty()}}, 1, nil, []string{"", "a"}},
		{"another Op within", row(one("a"), api.Expr{Op: 9}), 1, nil, []string{"", "a"}},
	}
}

// C1.
func TestMatch(t *testing.T) {
	for _, c := range samples() {
		for _, s := range c.in {
			if !auto.Match(c.e, s) {
				t.Errorf("%s: %q is not in it", c.name, s)
			}
		}
		for _, s := range c.out {
			if auto.Match(c.e, s) {
				t.Errorf("%s: %q is in it", c.name, s)
			}
		}
	}
}

// C1: each byte is itself and no other.
func TestMatchBytes(t *testing.T) {
	all := allBytes()
	for b := range 256 {
		for c := range 256 {
			if got := auto.Match(one(all[b:b+1]), all[c:c+1]); got != (b == c) {
				t.Fatalf("byte %d in the set of byte %d: %v", c, b, got)
			}
			if got := auto.Match(one(all[:b]), all[c:c+1]); got != (c < b) {
				t.Fatalf("byte %d in the set of the bytes up to %d: %v", c, b, got)
			}
		}
	}
}

// C2.
func TestStates(t *testing.T) {
	for _, c := range samples() {
		if n, errno := auto.States(c.e); n != c.states || errno != api.OK {
			t.Errorf("%s: %d, %d, want %d", c.name, n, errno, c.states)
		}
	}
}

// C3.
func TestDiffer(t *testing.T) {
	all := allBytes()
	any := again(one(all))
	for _, c := range []struct {
		name   string
		a, b   api.Expr
		text   string
		differ bool
	}{
		{"none and none", none(), choice(), "", false},
		{"none and the empty text", none(), empty(), "", true},
		{"none and no way to the end", none(), row(one("a"), none()), "", false},
		{"the empty text, said otherwise", again(), row(empty(), again(none())), "", false},
		{"a longer text", one("a"), choice(one("a"), word("bcd")), "bcd", true},
		{"shorter goes ahead of lesser", word("b"), word("aa"), "b", true},
		{"lesser goes ahead", choice(one("c"), one("z")), choice(one("b"), one("z")), "b", true},
		{"lesser first byte, not lesser last one", word("az"), word("ba"), "az", true},
		{"bytes above 127 are greater", one("\x80"), one("\x7f"), "\x7f", true},
		{"least byte", one(all[1:]), one(all), "\x00", true},
		{"greatest byte", one(all[:255]), one(all), "\xff", true},
		{"bytes that no set names", any, again(one(all[:100] + all[101:])), "d", true},
		{"all and none", any, none(), "", true},
		{"all and all but the empty text", any, row(one(all), any), "", true},
		{"all and all but one text", any, choice(empty(), row(one(all[:97]+all[98:]), any), row(one("a"), one(all), any)), "a", true},
		{"even and every number", again(one("a")), again(word("aa")), "a", true},
		{"twos and threes", again(word("aa")), again(word("aaa")), "aa", true},
		{"sixes", again(times(one("a"), 6)), again(row(times(one("a"), 3), times(one("a"), 3))), "", false},
		{"sixes and twelves", again(times(one("a"), 6)), again(times(one("a"), 12)), "aaaaaa", true},
		{"one of them after the other", again(one("a"), one("b")), again(row(again(one("a")), one("b")), one("a")), "", false},
		{"choices in another order", choice(word("ab"), word("cd")), choice(word("cd"), word("ab"), none()), "", false},
		{"rows in another order", row(one("a"), one("b")), row(one("b"), one("a")), "ab", true},
		{"far apart", times(one("ab"), 100), row(times(one("ab"), 99), one("abc")), strings.Repeat("a", 99) + "c", true},
		{"other Op and none", api.Expr{Op: 77, Kids: []api.Expr{empty()}}, none(), "", false},
	} {
		for _, e := range [][2]api.Expr{{c.a, c.b}, {c.b, c.a}} {
			text, differ, errno := auto.Differ(e[0], e[1])
			if text != c.text || differ != c.differ || errno != api.OK {
				t.Errorf("%s: %q, %v, %d, want %q, %v", c.name, text, differ, errno, c.text, c.differ)
			}
		}
		if text, differ, errno := auto.Differ(c.a, c.a); text != "" || differ || errno != api.OK {
			t.Errorf("%s: with itself %q, %v, %d", c.name, text, differ, errno)
		}
	}
}

func TestArgumentsStay(t *testing.T) {
	for i, c := range samples() {
		auto.Match(c.e, "ab")
		auto.States(c.e)
		auto.Differ(c.e, c.e)
		if !reflect.DeepEqual(c.e, samples()[i].e) {
			t.Errorf("%s has been changed", c.name)
		}
	}
}
