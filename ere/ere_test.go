package ere_test

import (
	"fmt"
	"reflect"
	"strings"
	"testing"

	"sieve/api"
	"sieve/auto"
	"sieve/ere"
	"sieve/glob"
)

// checkMatch holds both calls against whether a text is meant.
func checkMatch(t *testing.T, pattern, text string, want bool) {
	t.Helper()
	e, errno, place := ere.Parse(pattern)
	if errno != api.OK || place != 0 {
		t.Errorf("Parse(%q) = %d %d, want 0 0", pattern, errno, place)
		return
	}
	if auto.Match(e, text) != want {
		t.Errorf("Parse(%q) means %q: %t, want %t", pattern, text, !want, want)
	}
	if got, errno := ere.Match(pattern, text); got != want || errno != api.OK {
		t.Errorf("Match(%q, %q) = %t %d, want %t 0", pattern, text, got, errno, want)
	}
}

// checkError holds both calls against a fault.
func checkError(t *testing.T, pattern string, want api.Errno, where int) {
	t.Helper()
	e, errno, place := ere.Parse(pattern)
	if errno != want || place != where {
		t.Errorf("Parse(%q) = %d %d, want %d %d", pattern, errno, place, want, where)
	}
	if want == api.OK {
		return
	}
	if !reflect.DeepEqual(e, api.Expr{}) {
		t.Errorf("Parse(%q) answers a set beside %d", pattern, errno)
	}
	for _, text := range []string{"", "a", pattern} {
		if in, errno := ere.Match(pattern, text); in || errno != want {
			t.Errorf("Match(%q, %q) = %t %d, want false %d", pattern, text, in, errno, want)
		}
	}
}

// meanings are a pattern, texts that it means and texts that it does not.
type meanings []struct {
	pattern string
	in, out []string
}

func (m meanings) check(t *testing.T) {
	t.Helper()
	for _, c := range m {
		for _, text := range c.in {
			checkMatch(t, c.pattern, text, true)
		}
		for _, text := range c.out {
			checkMatch(t, c.pattern, text, false)
		}
	}
}

type list = []string

// F1, F2: each kind of atom, rows and choices; all of a text is meant, not a piece of it.
func TestAtoms(t *testing.T) {
	meanings{
		{"a", list{"a"}, list{"", "b", "A", "aa", "ba", "ab"}},
		{"abc", list{"abc"}, list{"", "ab", "bc", "abcd", "xabc", "acb"}},
		{"ab|c", list{"ab", "c"}, list{"", "a", "b", "ac", "abc", "ab|c"}},
		{"a|b|cd", list{"a", "b", "cd"}, list{"", "ab", "c", "d", "acd", "bd"}},
		{"a|a", list{"a"}, list{"", "aa"}},
		{"(a)", list{"a"}, list{"", "(a)", "aa"}},
		{"((a))b", list{"ab"}, list{"a", "b"}},
		{"(a|b)c", list{"ac", "bc"}, list{"a", "b", "c", "abc"}},
		{"a(b|c)", list{"ab", "ac"}, list{"a", "abc", "c"}},
		{"a(b|cd|e)f", list{"abf", "acdf", "aef"}, list{"af", "acf", "abcdf"}},
		{"(a|b)(c|d)", list{"ac", "ad", "bc", "bd"}, list{"ab", "cd", "a", "abcd"}},
		{"((a|b)c|d)e", list{"ace", "bce", "de"}, list{"ae", "cde", "e"}},
		{".", list{"a", ".", "\x00", "\xff", "\r", "\x0b"}, list{"", "\n", "ab", "ä"}},
		{"a.c", list{"abc", "a.c", "a/c"}, list{"ac", "a\nc", "abbc"}},
		{".*", list{"", "a", "a/b.c\x00\xff"}, list{"\n", "a\n", "\na"}},
		{"\n", list{"\n"}, list{"", "n", " "}},
		{"}]", list{"}]"}, list{"}", "]", ""}},
		{"a}", list{"a}"}, list{"a"}},
		{"]", list{"]"}, list{""}},
		{"-,!/:=0<>@_~\"#%&' ", list{"-,!/:=0<>@_~\"#%&' "}, list{""}},
		{"ä", list{"ä"}, list{"\xc3", "\xa4"}},
		{"ä?", list{"ä", "\xc3"}, list{"", "\xa4"}},
	}.check(t)
}

// F1: behind a `\` a sign means itself, and no other byte can stand there; what is no sign, or no byte by itself.
func TestEachByte(t *testing.T) {
	const signs, noBytes = `^.[]$()|*+?{}\/`, `^.[$()|*+?{\`
	for b := range 256 {
		c := string([]byte{byte(b)})
		other := string([]byte{byte(b + 1)})
		if strings.Contains(signs, c) {
			checkMatch(t, `\`+c, c, true)
			checkMatch(t, `\`+c, other, false)
			checkMatch(t, `\`+c, `\`+c, false)
			checkMatch(t, `x\`+c+`{2}y`, "x"+c+c+"y", true)
		} else {
			checkError(t, `\`+c, api.ErrText, 0)
			checkError(t, `ab(\`+c+`)`, api.ErrText, 3)
		}
		if strings.Contains(noBytes, c) {
			if c != "." && c != `\` {
				where := 0
				if c == "(" {
					where = 1
				}
				checkError(t, c, api.ErrText, where)
			}
		} else {
			checkMatch(t, c, c, true)
			checkMatch(t, c, other, false)
			checkMatch(t, "(x"+c+")*y", "x"+c+"x"+c+"y", true)
		}
		checkMatch(t, ".", c, b != 10)
		checkMatch(t, "x.", "x"+c, b != 10)
	}
}

// F1: a bracket means what one of glob means, but for the signs in which they differ; for each byte.
func TestBracketsLikeGlob(t *testing.T) {
	for _, pattern := range []string{
		"[a]", "[abc]", "[a-c]", "[c-a]", "[b-b]", "[]]", "[]a]", "[]-a]", "[^a]", "[^]]", "[^]a]", "[^]-a]", "[^a-c]", "[^c-a]", "[^^]", "[a^]",
		"[-a]", "[a-]", "[-]", "[--]", "[---]", "[--a]", "[+--]", "[a--]", "[a-c-e]", "[^-a]", "[[]", "[[a]", "[a[]", "[X-[]", "[.]", "[*+?{}()|$.]",
		"[\x00-\xff]", "[^\x00-\xff]", "[\x80-\xff]", "[\n]", "[^\n]", "[/]", "[^/]", "[:]", "[:a:]", "[a:]", "[[:]", "[[:a]", "[[:A:]", "[[::]",
		"[[:alpha:]]", "[[:digit:]]", "[[:alnum:]]", "[[:upper:]]", "[[:lower:]]", "[[:xdigit:]]",
		"[[:space:]]", "[[:blank:]]", "[[:punct:]]", "[[:print:]]", "[[:graph:]]", "[[:cntrl:]]",
		"[^[:alpha:]]", "[[:alpha:][:digit:]_]", "[^[:alpha:][:digit:]_]", "[x[:digit:]-z]", "[[:digit:]-]", "[a-[:digit:]", "[]-[:digit:]",
	} {
		for b := range 256 {
			c := string([]byte{byte(b)})
			want, errno := glob.Match(pattern, c, false, false)
			if errno != api.OK {
				t.Fatalf("glob.Match(%q, %q) = %d", pattern, c, errno)
			}
			checkMatch(t, pattern, c, want)
		}
	}
}

// F1: with `^` alone for the others, and `\` an item by itself.
func TestBrackets(t *testing.T) {
	meanings{
		{"[!a]", list{"!", "a"}, list{"b", "", "!a"}},
		{"[!]", list{"!"}, list{"a", "[!]"}},
		{"[!]]", list{"!]"}, list{"!", "]", "a]"}},
		{"[!-#]", list{"!", "\"", "#"}, list{"-", " ", "$"}},
		{"[^!]", list{"^", "a", "\n"}, list{"!"}},
		{"[^a]", list{"\n", "b", "^", "\x00", "\xff"}, list{"a", "", "bb"}},
		{"[^]]", list{"a", "\n"}, list{"]", ""}},
		{`[\]`, list{`\`}, list{"]", ""}},
		{`[\]]`, list{`\]`}, list{`\`, "]"}},
		{`[\\]`, list{`\`}, list{`\\`, ""}},
		{`[\a]`, list{`\`, "a"}, list{`\a`, "b"}},
		{`[^\]`, list{"a", "]"}, list{`\`}},
		{`[^\a]`, list{"b", "]"}, list{`\`, "a"}},
		{`[\-a]`, list{`\`, "]", "^", "_", "`", "a"}, list{"-", "[", "b"}},
		{`[A-\]`, list{"A", "Z", "[", `\`}, list{"]", "-", "a"}},
		{`[a\-]`, list{"a", `\`, "-"}, list{"]", "b"}},
		{`[a\-c]`, list{"a", `\`, "_", "b", "c"}, list{"[", "-"}},
		{`[\^]`, list{`\`, "^"}, list{"a"}},
		{`[\n]`, list{`\`, "n"}, list{"\n"}},
		{`[]\]`, list{"]", `\`}, list{"a"}},
		{"[a]b", list{"ab"}, list{"b", "a", "[a]b"}},
		{"x[ab]+", list{"xa", "xabba"}, list{"x", "xc", "a"}},
		{"[ab]{2}", list{"aa", "ab", "ba", "bb"}, list{"a", "abc"}},
		{"[(]a[)]", list{"(a)"}, list{"a"}},
		{"([)])", list{")"}, list{"", "[)]"}},
		{"[|]|a", list{"|", "a"}, list{"", "[|]"}},
		{"[b-a]", nil, list{"", "a", "b", "-", "\n"}},
		{"[b-a]*", list{""}, list{"a", "b"}},
		{"[b-a]{0}", list{""}, list{"a", "b"}},
		{"[b-a]|c", list{"c"}, list{"", "a"}},
		{"a[b-a]?c", list{"ac"}, list{"abc", "aac"}},
		{"[[:digit:]]+", list{"1", "123"}, list{"", "a", "1a"}},
		{"[[.a.]]", list{"[]", ".]", "a]"}, list{"a", "[", "]"}},
		{"[[=a=]]", list{"=]", "a]"}, list{"a"}},
		{"[[:a]b:]", list{"[b:]", ":b:]", "ab:]"}, list{"a"}},
	}.check(t)
}

// F1: a `[` with which no bracket begins, or one with a class that there is not, is told by its own place.
func TestNoBracket(t *testing.T) {
	for _, s := range []string{
		"[", "[]", "[^", "[^]", "[a", "[^a", "[a-", "[a-b", "[]a", "[^]a", "[(a)", "[[", "[[:", "[[:alpha", "[[:alpha:", "[[:alpha:]", "[^[:alpha:]",
		"[[:foo:]]", "[[:foo:]", "[^[:foo:]]", "[a[:foo:]b]", "[[:alpha:][:foo:]]", "[[:foo:][:alpha:]]", "[[:alphas:]]", "[[:alph:]]", "[][:x:]]",
	} {
		checkError(t, s, api.ErrText, 0)
		checkError(t, "xyz"+s, api.ErrText, 3)
		checkError(t, "a|(b*"+s, api.ErrText, 5)
		checkError(t, "[a]"+s, api.ErrText, 3)
	}
	checkError(t, "[[:foo:]])", api.ErrText, 0)
	checkError(t, "[[:foo:]]{256}", api.ErrText, 0)
	checkError(t, "a)[", api.ErrText, 1)
	// What is no class by its form is items.
	checkMatch(t, "[[:Foo:]", ":", true)
	checkMatch(t, "[[:f o:]]", "f]", true)
	checkMatch(t, "[[::]]", ":]", true)
	checkMatch(t, "[:foo:]", "f", true)
}

// F1, F2: each sign that says how often, and each form of those with numbers.
func TestTimes(t *testing.T) {
	as := func(n int) string { return strings.Repeat("a", n) }
	for _, c := range []struct {
		pattern     string
		least, most int // most below 0: no end
	}{
		{"a*", 0, -1}, {"a+", 1, -1}, {"a?", 0, 1},
		{"a{0}", 0, 0}, {"a{1}", 1, 1}, {"a{2}", 2, 2}, {"a{3}", 3, 3}, {"a{9}", 9, 9}, {"a{10}", 10, 10},
		{"a{0,}", 0, -1}, {"a{1,}", 1, -1}, {"a{2,}", 2, -1}, {"a{12,}", 12, -1},
		{"a{0,0}", 0, 0}, {"a{0,1}", 0, 1}, {"a{0,3}", 0, 3}, {"a{1,1}", 1, 1}, {"a{2,3}", 2, 3}, {"a{3,3}", 3, 3}, {"a{2,10}", 2, 10}, {"a{9,11}", 9, 11},
		{"a{00}", 0, 0}, {"a{000}", 0, 0}, {"a{02}", 2, 2}, {"a{002}", 2, 2}, {"a{010}", 10, 10}, {"a{001,02}", 1, 2}, {"a{003,003}", 3, 3}, {"a{1,010}", 1, 10},
		{"a{99}", 99, 99}, {"a{100}", 100, 100}, {"a{254}", 254, 254}, {"a{255}", 255, 255}, {"a{255,}", 255, -1}, {"a{255,255}", 255, 255}, {"a{0,255}", 0, 255}, {"a{254,255}", 254, 255},
		{"(a)*", 0, -1}, {"(a){2,3}", 2, 3}, {"[ab]{2,3}", 2, 3}, {".{2,3}", 2, 3}, {"(a|b){2,3}", 2, 3},
		{"a**", 0, -1}, {"a*+", 0, -1}, {"a*?", 0, -1}, {"a+*", 0, -1}, {"a++", 1, -1}, {"a+?", 0, -1}, {"a?*", 0, -1}, {"a?+", 0, -1}, {"a??", 0, 1},
		{"a{2}{3}", 6, 6}, {"a{3}{2}", 6, 6}, {"a{2}{3}{4}", 24, 24}, {"a{0}{5}", 0, 0}, {"a{5}{0}", 0, 0}, {"a{0}*", 0, 0}, {"a{0}+", 0, 0}, {"a{0}?", 0, 0}, {"a*{0}", 0, 0},
		{"a{1,2}{2}", 2, 4}, {"a?{3}", 0, 3}, {"a{0,1}{0,2}", 0, 2}, {"a+{3}", 3, -1}, {"a{3,}{2}", 6, -1},
		{"(a{0}|a){2}", 0, 2}, {"(a{2}|a{3}){2}", 4, 6}, {"((a){2}){3}", 6, 6}, {"a{0}a{2}a{0,1}", 2, 3},
	} {
		for n := range 30 {
			checkMatch(t, c.pattern, as(n), n >= c.least && (c.most < 0 || n <= c.most))
		}
		for _, n := range []int{98, 99, 100, 101, 253, 254, 255, 256, 300} {
			checkMatch(t, c.pattern, as(n), n >= c.least && (c.most < 0 || n <= c.most))
		}
	}
	meanings{
		{"a{2}?", list{"", "aa"}, list{"a", "aaa", "aaaa"}},
		{"a{2}*", list{"", "aa", "aaaa"}, list{"a", "aaa"}},
		{"a{3}+", list{"aaa", "aaaaaa"}, list{"", "a", "aaaa"}},
		{"a{2}{1,}", list{"aa", "aaaa"}, list{"", "a", "aaa"}},
		{"a{3}{0,2}", list{"", "aaa", "aaaaaa"}, list{"a", "aa", "aaaa", "aaaaaaaaa"}},
		{"ab*", list{"a", "abb"}, list{"", "abab"}},
		{"(ab)*", list{"", "ab", "abab"}, list{"a", "abb", "ba"}},
		{"(ab|c){2}", list{"abc", "cab", "cc", "abab"}, list{"", "ab", "c", "abcc"}},
		{"(ab|c){1,2}d", list{"abd", "cd", "abcd", "ccd"}, list{"d", "cccd"}},
		{"(a*b){2}", list{"bb", "abab", "aabb"}, list{"b", "aab", "bba"}},
		{"a|b*", list{"", "a", "b", "bb"}, list{"aa", "ab"}},
		{"(a|b)*", list{"", "abba"}, list{"c", "abc"}},
		{"a?b", list{"b", "ab"}, list{"", "a", "aab"}},
		{"a+b+", list{"ab", "aabb"}, list{"a", "b", "aba"}},
		{".{2}", list{"ab", "aa"}, list{"a", "a\n", "abc"}},
		{`\{{2}`, list{"{{"}, list{"{", "{2}"}},
		{"}{2}", list{"}}"}, list{"}", "}{2}"}},
		{"]{2}", list{"]]"}, list{"]"}},
		{",{2,3}", list{",,", ",,,"}, list{","}},
		{"1{1}1", list{"11"}, list{"1", "111"}},
		{"(a{0}|b)c", list{"c", "bc"}, list{"ac", "abc"}},
		{"a{0}", list{""}, list{"a"}},
	}.check(t)
}

// F1: the first byte that cannot stand where it does, or the length of a text that ends too early.
func TestErrText(t *testing.T) {
	for _, c := range []struct {
		pattern string
		place   int
	}{
		{"", 0}, {"|", 0}, {")", 0}, {"*", 0}, {"+", 0}, {"?", 0}, {"{", 0}, {"^", 0}, {"$", 0}, {"{1}", 0},
		{"*a", 0}, {"|a", 0}, {")a", 0}, {"^a", 0}, {"$a", 0},
		{"a|", 2}, {"a||b", 2}, {"a|*", 2}, {"a|)", 2}, {"a|b|", 4}, {"a|^", 2},
		{"a)", 1}, {"a)b", 1}, {"(a))", 3}, {"(a)|)", 4}, {"a*)", 2}, {"a{1})", 4},
		{"(", 1}, {"((", 2}, {"()", 1}, {"(a", 2}, {"(a|", 3}, {"(a|)", 3}, {"(|a)", 1}, {"((a)", 4}, {"(a)(", 4}, {"(*a)", 1}, {"(a*", 3}, {"a()", 2}, {"(a{2}", 5},
		{"a^", 1}, {"a$", 1}, {"a$b", 1}, {"(a$)", 2}, {"(^a)", 1}, {"a*$", 2},
		{`\`, 1}, {`a\`, 2}, {`\\\`, 3}, {`(a\`, 3}, {`\*\`, 3}, {`a|\`, 3},
		{`\a`, 0}, {`a\a`, 1}, {`a\n`, 1}, {`a\-`, 1}, {`\1`, 0}, {`(a|\,)`, 3}, {`\\\a`, 2}, {"\\\n", 0}, {"\\\x00", 0}, {"\\\xff", 0}, {`\"`, 0},
		{"a{", 2}, {"a{}", 2}, {"a{,", 2}, {"a{,3}", 2}, {"a{a}", 2}, {"a{-1}", 2}, {"a{ 1}", 2}, {"a{+1}", 2}, {"a{{1}}", 2},
		{"a{1", 3}, {"a{1a", 3}, {"a{1 }", 3}, {"a{1{", 3}, {"a{1)", 3}, {"a{12", 4}, {"a{123", 5}, {"a{12a}", 4}, {"a{123a}", 5},
		{"a{1,", 4}, {"a{1,a", 4}, {"a{1,,", 4}, {"a{1, 2}", 4}, {"a{1,2", 5}, {"a{1,2a}", 5}, {"a{1,2,3}", 5}, {"a{1,)", 4}, {"a{1,25", 6}, {"a{1,250", 7},
		{"a{1000}", 5}, {"a{0000}", 5}, {"a{0001}", 5}, {"a{1001", 5}, {"a{1,1000}", 7}, {"a{0,0012}", 7}, {"a{0,0000}", 7},
		{"a{1}{", 5}, {"a{1}{}", 5}, {"a*{", 3}, {"a|b{x", 4}, {"(a){1)", 5},
		{"a{\xb2}", 2}, {"a{1\x00", 3},
	} {
		checkError(t, c.pattern, api.ErrText, c.place)
	}
}

// F1: numbers out of their bounds.
func TestErrRange(t *testing.T) {
	for _, c := range []struct {
		pattern string
		place   int
	}{
		{"a{256}", 2}, {"a{257}", 2}, {"a{300}", 2}, {"a{999}", 2}, {"a{256,}", 2}, {"a{256,1}", 2}, {"a{256,999}", 2}, {"a{256", 2}, {"a{256x", 2}, {"a{2560}", 2}, {"a{9999}", 2},
		{"a{1,256}", 4}, {"a{255,256}", 6}, {"a{0,999}", 4}, {"a{10,256", 5}, {"a{1,2560}", 4}, {"a{1,0002}", 4}, {"a{1,256x", 4},
		{"a{3,2}", 4}, {"a{1,0}", 4}, {"a{255,254}", 6}, {"a{10,9}", 5}, {"a{2,1", 4}, {"a{2,1x", 4}, {"a{010,009}", 6}, {"a{100,99}", 6},
		{"ab{256}", 3}, {"(a{256})", 3}, {"a{1}{256}", 5}, {"a|b{5,4}", 6}, {"(a){3,2}", 6}, {"a{2,1}{256}", 4},
	} {
		checkError(t, c.pattern, api.ErrRange, c.place)
	}
	checkError(t, "a{3,25}", api.OK, 0)
	checkError(t, "a{30,200}", api.OK, 0)
	checkError(t, "a{255,255}", api.OK, 0)
}

// nested is a text within a number of brackets.
func nested(n int, s string) string {
	return strings.Repeat("(", n) + s + strings.Repeat(")", n)
}

// F1: brackets within each other.
func TestErrDeep(t *testing.T) {
	checkMatch(t, nested(19, "a"), "a", true)
	checkMatch(t, nested(20, "a"), "a", true)
	checkMatch(t, nested(20, "a|b")+nested(20, "c*"), "bcc", true)
	checkMatch(t, nested(20, "a")+"|"+nested(20, "b"), "b", true)
	checkMatch(t, "("+strings.Repeat("(a)", 60)+")", strings.Repeat("a", 60), true)
	checkMatch(t, nested(20, `\([(]`), "((", true)
	checkError(t, nested(21, "a"), api.ErrDeep, 20)
	checkError(t, nested(22, "a"), api.ErrDeep, 20)
	checkError(t, nested(99, "a"), api.ErrDeep, 20)
	checkError(t, strings.Repeat("(", 21), api.ErrDeep, 20)
	checkError(t, strings.Repeat("(", 20), api.ErrText, 20)
	checkError(t, strings.Repeat("(", 20)+")", api.ErrText, 20)
	checkError(t, strings.Repeat("(", 200), api.ErrDeep, 20)
	checkError(t, strings.Repeat("(a", 21), api.ErrDeep, 40)
	checkError(t, strings.Repeat("(a|", 21), api.ErrDeep, 60)
	checkError(t, nested(20, "(a)"), api.ErrDeep, 20)
	checkError(t, nested(20, "a(b)"), api.ErrDeep, 21)
	checkError(t, nested(20, "a")+nested(21, "b"), api.ErrDeep, 61)
	checkError(t, "(a)"+nested(21, "b"), api.ErrDeep, 23)
	checkError(t, nested(21, "a{256}"), api.ErrDeep, 20)
	checkError(t, strings.Repeat("(", 19)+"a{256}((", api.ErrRange, 21)
}

// F1: how many atoms a piece has, with all its times written out.
func TestErrMany(t *testing.T) {
	for _, c := range []struct {
		pattern string
		errno   api.Errno
		place   int
	}{
		{"a{250}{4}", api.OK, 0},
		{"a{143}{7}", api.ErrMany, 0}, // 1001
		{"a{4}{250}", api.OK, 0},
		{"a{7}{143}", api.ErrMany, 0},
		{"a{200}{5}", api.OK, 0},
		{"(a{40}){25}", api.OK, 0},
		{"(a{40}){26}", api.ErrMany, 0},
		{"(a{77}){13}", api.ErrMany, 0}, // 1001
		{"((a{10}){10}){10}", api.OK, 0},
		{"((a{7}){11}){13}", api.ErrMany, 0}, // 1001
		{"(ab){250}{2}", api.OK, 0},
		{"(ab|c){167}{2}", api.ErrMany, 0}, // 1002
		{"(ab|cd){250}", api.OK, 0},
		{"(ab|cd){251}", api.ErrMany, 0},
		{"(a.[b]\\.){250}", api.OK, 0},
		{"(a.[b]\\.){251}", api.ErrMany, 0},
		{"(a{3}b){250}", api.OK, 0},
		{"(a{3}b){251}", api.ErrMany, 0},
		{nested(20, "a{250}") + "{4}", api.OK, 0},
		{nested(20, "a{251}") + "{4}", api.ErrMany, 0},

		// What each sign counts.
		{"a{125}{4}+", api.OK, 0}, // 1000
		{"a{167}{3}+", api.ErrMany, 0},
		{"a+++++++++", api.OK, 0}, // 512
		{"a++++++++++", api.ErrMany, 0},
		{"a{250}{4}*", api.OK, 0},
		{"a{250}{4}?", api.OK, 0},
		{"a{250}{4}{1}", api.OK, 0},
		{"a{250}{4}{0,1}", api.OK, 0},
		{"a{250}{4}{0,}", api.OK, 0},
		{"a{250}{4}+", api.ErrMany, 0},
		{"a{250}{4}{1,}", api.ErrMany, 0},
		{"a{250}{4}{0,2}", api.ErrMany, 0},
		{"a{249,}{4}", api.OK, 0},
		{"a{142,}{7}", api.ErrMany, 0},
		{"a{250,}{4}", api.ErrMany, 0},
		{"a{0,250}{4}", api.OK, 0},
		{"a{1,143}{7}", api.ErrMany, 0},
		{"a{250,250}{4}", api.OK, 0},
		{"a*{250}{4}", api.OK, 0},
		{"a?{143}{7}", api.ErrMany, 0},
		{"a+{125}{4}", api.OK, 0},
		{"a+{251}{2}", api.ErrMany, 0},

		// A number of times that is 0.
		{"a{0}{255}{255}{255}", api.OK, 0},
		{"a{255}{255}{0}", api.OK, 0},
		{"a{255}{255}{0,0}", api.OK, 0},
		{"a{255}{255}{255}{255}{255}{255}{255}{255}{255}{0}", api.OK, 0},
		{"(a{0}b){250}{4}", api.OK, 0},
		{"(a{0}bc){250}{4}", api.ErrMany, 0},
		{"(a{255}{0}b){250}{4}", api.OK, 0},
		{"(a{143}{7}){0}", api.ErrMany, 1},
		{"(a{255}{255}{255}{255}{255}{255}{255}{255}){0}", api.ErrMany, 1},
		{"a{128}{128}{128}{128}{128}{128}{128}{128}{128}{128}", api.ErrMany, 0}, // 2 to the 70th
		{"a{255}{255}{255}{255}{255}{255}{255}{255}{255}{255}{255}{255}{255}{255}{255}{255}{255}{255}{255}{255}{255}{255}{255}{255}{255}{255}{255}{255}{255}{255}{255}{255}{255}{255}{255}{255}{255}{255}{255}", api.ErrMany, 0},

		// Pieces, not what is whole.
		{"a{250}{4}b", api.OK, 0},
		{"a{250}{4}b{250}{4}", api.OK, 0},
		{"a{250}{4}|b{250}{4}", api.OK, 0},
		{"(a{250}{4})", api.OK, 0},
		{"(a{250}{4}b)", api.ErrMany, 0},
		{"(a{250}{4}|b)", api.ErrMany, 0},
		{"(a{250}{4}b{0})", api.OK, 0},
		{"(a{250}{2}b{250}{2})", api.OK, 0},
		{"(a{250}{2}|b{250}{2})", api.OK, 0},
		{"(a{250}{2}b{250}{2}c)", api.ErrMany, 0},

		// Its place, and what is met ahead of it.
		{"xa{143}{7}", api.ErrMany, 1},
		{"x|a{143}{7}", api.ErrMany, 2},
		{"(a{143}{7})", api.ErrMany, 1},
		{"((a{143}{7}))", api.ErrMany, 2},
		{"(xx(a{77}){13})", api.ErrMany, 3},
		{"x(a{40}){26}", api.ErrMany, 1},
		{"a{143}{7}b{143}{7}", api.ErrMany, 0},
		{"a{250}{4}b{143}{7}", api.ErrMany, 9},
		{"[ab]{143}{7}", api.ErrMany, 0},
		{`x\.{143}{7}`, api.ErrMany, 1},
		{"a{143}{7})", api.ErrMany, 0},
		{"a{143}{7}|", api.ErrMany, 0},
		{"a{143}{7}[", api.ErrMany, 0},
		{"a{143}{7}\\", api.ErrMany, 0},
		{"a{143}{7}$", api.ErrMany, 0},
		{"a{143}{7}" + strings.Repeat("(", 30), api.ErrMany, 0},
		{"(a{143}{7}", api.ErrMany, 1},
		{"a{143}{7}{", api.ErrText, 10},
		{"a{143}{7}{x", api.ErrText, 10},
		{"a{143}{7}{1", api.ErrText, 11},
		{"a{143}{7}{256}", api.ErrRange, 10},
		{"a{143}{7}{2,1}", api.ErrRange, 12},
		{"(a{40}){26", api.ErrText, 10},
		{"(a{40}", api.ErrText, 6},
		{"(a{250}{4}b", api.ErrText, 11},
		{"(a{250}{4}b|", api.ErrText, 12},
		{"(a{250}{4}b){256}", api.ErrRange, 13},
		{"a)b{143}{7}", api.ErrText, 1},
	} {
		checkError(t, c.pattern, c.errno, c.place)
	}
}

// F2: what has as many atoms as there may be means as many.
func TestManyAtoms(t *testing.T) {
	thousand := strings.Repeat("a", 1000)
	checkMatch(t, "a{250}{4}", thousand, true)
	checkMatch(t, "a{250}{4}", thousand[1:], false)
	checkMatch(t, "a{250}{4}", thousand+"a", false)
	checkMatch(t, "(a{40}){25}", thousand, true)
	checkMatch(t, "(a{40}){25}", thousand[1:], false)
	checkMatch(t, "(a{0,250}){4}", thousand, true)
	checkMatch(t, "(a{0,250}){4}", thousand[1:], true)
	checkMatch(t, "(a{0,250}){4}", "", true)
	checkMatch(t, "(a{0,250}){4}", thousand+"a", false)
	checkMatch(t, "a{125}{4}+", thousand, true)
	checkMatch(t, "a{125}{4}+", thousand[1:], false)
	checkMatch(t, "a{249,}{4}", thousand, true)
	checkMatch(t, "a{249,}{4}", thousand[5:], false)
	checkMatch(t, "a{250}{4}b{250}{4}", thousand+strings.Repeat("b", 1000), true)
	checkMatch(t, "a{250}{4}b{250}{4}", thousand+strings.Repeat("b", 999), false)
	all := strings.Repeat("a{250}{4}", 22)
	checkMatch(t, all, strings.Repeat("a", 22000), true)
	checkMatch(t, all, strings.Repeat("a", 21999), false)
	choice := strings.Repeat("b{250}{4}|", 19) + "a{250}{4}"
	checkMatch(t, choice, thousand, true)
	checkMatch(t, choice, thousand[1:]+"b", false)
}

// F1, F2: copies of what has no atoms are the empty text, however many they are.
func TestCopiesOfNothing(t *testing.T) {
	for _, s := range []string{
		"(a{0})" + strings.Repeat("{255}", 38),
		"(a{0}|b{0})" + strings.Repeat("{1,255}", 26),
		"(a{0}b{0}c{0})" + strings.Repeat("+", 180),
		nested(20, "a{0}"+strings.Repeat("{255}", 30)),
		strings.Repeat("(", 20) + "a{0}" + strings.Repeat("{255})", 20) + "{255}",
		"a" + strings.Repeat("{255}", 38) + "{0}",
		"a{0}" + strings.Repeat("*", 190),
	} {
		checkMatch(t, s, "", true)
		checkMatch(t, s, "a", false)
		checkMatch(t, "x"+s+"y", "xy", true)
	}
	checkMatch(t, "(a{0}|b){250}{4}", strings.Repeat("b", 1000), true)
	checkMatch(t, "(a{0}|b){250}{4}", strings.Repeat("b", 1001), false)
	checkMatch(t, "("+strings.Repeat("a{0}|", 30)+"b){250}{4}", "bbb", true)
	checkMatch(t, "("+strings.Repeat("a{0}", 30)+"b){250}{4}", strings.Repeat("b", 1000), true)
	checkMatch(t, "a"+strings.Repeat("*", 199), "aaa", true)
	checkMatch(t, "a"+strings.Repeat("?", 199), "aa", false)
	checkMatch(t, "a"+strings.Repeat("{1}", 66), "a", true)
}

// F1: how long an expression may be, whatever else is wrong with it.
func TestErrLong(t *testing.T) {
	for _, s := range []string{"a", ")", "(", "[", "*", "\\", "\x00", "\xff", "|"} {
		checkError(t, strings.Repeat(s, 201), api.ErrLong, 0)
		checkError(t, strings.Repeat(s, 100000), api.ErrLong, 0)
	}
	checkError(t, strings.Repeat("a", 196)+"{256}", api.ErrLong, 0)
	checkMatch(t, strings.Repeat("a", 200), strings.Repeat("a", 200), true)
	checkMatch(t, strings.Repeat("a", 200), strings.Repeat("a", 201), false)
	checkMatch(t, strings.Repeat("\n", 200), strings.Repeat("\n", 200), true)
	checkMatch(t, strings.Repeat("a|", 99)+"ab", "ab", true)
	checkError(t, strings.Repeat("a", 199)+")", api.ErrText, 199)
	checkError(t, strings.Repeat("a|", 100), api.ErrText, 200)
	checkError(t, strings.Repeat("ä", 101), api.ErrLong, 0)
}

// F2: long texts, and texts that lead a reader which tries one way after the other astray.
func TestLongTexts(t *testing.T) {
	long := strings.Repeat("a", 100000)
	checkMatch(t, "a*", long, true)
	checkMatch(t, "a*", long+"b", false)
	checkMatch(t, "(a*)*b", long, false)
	checkMatch(t, "(a|a)*b", long+"b", true)
	checkMatch(t, "(a|aa)+", long, true)
	checkMatch(t, "(.*a){5}", long[:2000], true)
	checkMatch(t, "((a*)*)*c|.*b", long+"b", true)
	checkMatch(t, strings.Repeat("a?", 60)+strings.Repeat("a", 60), long[:60], true)
	checkMatch(t, strings.Repeat("a?", 60)+strings.Repeat("a", 60), long[:59], false)
}

// F1: the Expr is the set's: it has as many states as that, and differs from others where they do.
func TestSets(t *testing.T) {
	for _, c := range []struct {
		pattern string
		states  int
	}{
		{"a", 3}, {"a*", 2}, {"a+", 3}, {"a?", 3}, {"a{3}", 5}, {"a{0}", 2}, {"[b-a]", 1}, {"(.|\n)*", 1}, {"(a|b)*a(a|b){2}", 9}, {"a{250}", 252}, {"a{2,4}{3}", 14},
	} {
		e, errno, _ := ere.Parse(c.pattern)
		n, many := auto.States(e)
		if errno != api.OK || many != api.OK || n != c.states {
			t.Errorf("States(Parse(%q)) = %d %d %d, want %d", c.pattern, n, errno, many, c.states)
		}
	}
	for _, c := range []struct{ a, b, text string }{
		{"a|b", "[ab]", "-"}, {"a+", "aa*", "-"}, {"a{2,3}", "aaa?", "-"}, {"(a|b)*", "(a*b*)*", "-"}, {"a{2,}", "a{2}a*", "-"}, {"(ab)*a", "a(ba)*", "-"}, {"a*{3}", "a**", "-"},
		{"a*", "a+", ""}, {"a{2}", "a{3}", "aa"}, {".", "[^a]", "\n"}, {"[^a]", "(.|\n)", "a"}, {"(a{2}){2,3}", "a{4,6}", "aaaaa"}, {"a|b", "a", "b"},
	} {
		a, _, _ := ere.Parse(c.a)
		b, _, _ := ere.Parse(c.b)
		text, differ, errno := auto.Differ(a, b)
		if errno != api.OK || differ != (c.text != "-") || differ && text != c.text {
			t.Errorf("Differ of %q and %q: %q %t %d, want %q", c.a, c.b, text, differ, errno, c.text)
		}
	}
}

// F1, F2: what a call answers hangs on what it is given, and on nothing that was asked before.
func TestAgain(t *testing.T) {
	patterns := []string{"a{2}", "a)", "(a|b)*", "a{256}", "[[:foo:]]", "a{143}{7}", nested(21, "a"), ""}
	first := make([]string, len(patterns))
	for round := range 3 {
		for k, s := range patterns {
			e, errno, place := ere.Parse(s)
			in, other := ere.Match(s, "aa")
			got := fmt.Sprint(e, errno, place, in, other)
			if round == 0 {
				first[k] = got
			} else if got != first[k] {
				t.Errorf("of %q: %s, and then %s", s, first[k], got)
			}
		}
	}
}
