package glob_test

import (
	"reflect"
	"regexp"
	"strings"
	"testing"

	"sieve/api"
	"sieve/auto"
	"sieve/glob"
)

// ways are way and dot, each alone and both, in the order in which the tables tell what is meant.
var ways = []struct{ way, dot bool }{{false, false}, {true, false}, {false, true}, {true, true}}

// checkMatch holds what Match answers for each of the ways against a text of `y` and `n`; and what Parse's set has against that.
func checkMatch(t *testing.T, pattern, s, want string) {
	t.Helper()
	for k, w := range ways {
		in := want[k] == 'y'
		got, errno := glob.Match(pattern, s, w.way, w.dot)
		if got != in || errno != api.OK {
			t.Errorf("Match(%q, %q, %t, %t) = %t %d, want %t 0", pattern, s, w.way, w.dot, got, errno, in)
		}
		e, errno, place := glob.Parse(pattern, w.way)
		if errno != api.OK || place != 0 {
			t.Errorf("Parse(%q, %t) = %d %d, want 0 0", pattern, w.way, errno, place)
		}
		if !w.dot && auto.Match(e, s) != in {
			t.Errorf("Parse(%q, %t) means %q: %t, want %t", pattern, w.way, s, !in, in)
		}
	}
}

const (
	always  = "yyyy"
	never   = "nnnn"
	noWay   = "ynyn" // a wild piece would have to mean `/`
	noDot   = "yynn" // one would have to mean a `.` at the beginning
	noInner = "yyyn" // one would have to mean a `.` behind `/`
)

// D1, D2: each kind of piece, with and without way and dot.
func TestPieces(t *testing.T) {
	for _, c := range []struct{ pattern, s, want string }{
		{"", "", always},
		{"", "a", never},
		{"", "/", never},
		{"a", "a", always},
		{"a", "", never},
		{"a", "b", never},
		{"a", "aa", never},
		{"a", "A", never},
		{"abc", "abc", always},
		{"abc", "ab", never},
		{"abc", "abcd", never},
		{"a]", "a]", always},
		{"-!^{},|+()", "-!^{},|+()", always},
		{"\x00\xff", "\x00\xff", always},
		{"ä", "ä", always},
		{"ä", "\xc3", never},

		{"?", "", never},
		{"?", "a", always},
		{"?", "ab", never},
		{"?", "?", always},
		{"?", "\x00", always},
		{"?", "\xff", always},
		{"?", "\n", always},
		{"?", "ä", never},
		{"??", "ä", always},
		{"?", "/", noWay},
		{"?", ".", noDot},
		{"a?", "a.", always},
		{"a?b", "a/b", noWay},

		{"*", "", always},
		{"*", "a", always},
		{"*", "abc\n\x00\xff", always},
		{"*", "/", noWay},
		{"*", "a/b", noWay},
		{"*", ".", noDot},
		{"*", ".a", noDot},
		{"*", "a.b", always},
		{"**", "", always},
		{"**", "ab", always},
		{"**", "a/b", noWay},
		{"a*", "a", always},
		{"a*", "ba", never},
		{"*a", "a", always},
		{"*a", "ab", never},
		{"*a", "baa", always},
		{"a*b", "ab", always},
		{"a*b", "aab", always},
		{"a*b", "abb", always},
		{"a*b", "abc", never},
		{"a*b", "a/b", noWay},
		{"*a*b*", "ab", always},
		{"*a*b*", "xaxbx", always},
		{"*a*b*", "ba", never},
		{"*?", "", never},
		{"*?", "a", always},
		{"?*?", "a", never},
		{"?*?", "ab", always},
		{"*.c", "x.c", always},
		{"*.c", ".c", noDot},
		{"*.c", "x.c.c", always},
		{"*.c", "x.cc", never},

		{"\\a", "a", always},
		{"\\a", "\\a", never},
		{"\\*", "*", always},
		{"\\*", "a", never},
		{"\\*", "\\", never},
		{"\\?", "?", always},
		{"\\?", "a", never},
		{"\\[a]", "[a]", always},
		{"\\[a]", "a", never},
		{"\\\\", "\\", always},
		{"\\\\*", "\\a", always},
		{"\\\\\\*", "\\*", always},
		{"\\\\\\*", "\\a", never},
		{"\\\x00\\\xff", "\x00\xff", always},
		{"\\/", "/", always},
		{"\\.", ".", always},
		{"a\\/b", "a/b", always},
	} {
		checkMatch(t, c.pattern, c.s, c.want)
	}
}

// D1, D2: what a bracket is and what it means.
func TestBrackets(t *testing.T) {
	for _, c := range []struct{ pattern, s, want string }{
		{"[a]", "a", always},
		{"[a]", "b", never},
		{"[a]", "", never},
		{"[a]", "aa", never},
		{"[a]", "[a]", never},
		{"[abc]", "c", always},
		{"[abc]d", "bd", always},
		{"x[abc]", "xa", always},
		{"[a][b]", "ab", always},
		{"[a]]", "a]", always},
		{"[\x00\xff]", "\xff", always},
		{"[\x00\xff]", "\x00", always},
		{"[ä]", "\xa4", always},
		{"[*?]", "*", always},
		{"[*?]", "?", always},
		{"[*?]", "a", never},
		{"[[]", "[", always},
		{"[[a]", "a", always},
		{"[a[]", "[", always},

		// `]` as the first part.
		{"[]]", "]", always},
		{"[]]", "", never},
		{"[]a]", "]", always},
		{"[]a]", "a", always},
		{"[]a]", "b", never},
		{"[]]]", "]]", always},
		{"[]-a]", "]", always},
		{"[]-a]", "_", always},
		{"[]-a]", "a", always},
		{"[]-a]", "-", never},
		{"[]-]", "]", always},
		{"[]-]", "-", always},
		{"[!]]", "a", always},
		{"[!]]", "]", never},
		{"[^]]", "a", always},
		{"[^]]", "]", never},
		{"[!]a]", "]", never},
		{"[!]a]", "a", never},
		{"[!]a]", "b", always},
		{"[^]-a]", "_", never},
		{"[^]-a]", "b", always},

		// `!` and `^`: at the beginning alone, and one of them.
		{"[!a]", "a", never},
		{"[!a]", "b", always},
		{"[!a]", "\xff", always},
		{"[!a]", "\x00", always},
		{"[!a]", "", never},
		{"[!a]", "!", always},
		{"[^a]", "a", never},
		{"[^a]", "^", always},
		{"[!!]", "!", never},
		{"[!!]", "^", always},
		{"[^^]", "^", never},
		{"[!^]", "^", never},
		{"[!^]", "!", always},
		{"[^!]", "!", never},
		{"[^!]", "^", always},
		{"[a!]", "!", always},
		{"[a!]", "b", never},
		{"[a^]", "^", always},
		{"[\\!a]", "!", always},
		{"[\\!a]", "a", always},
		{"[\\!a]", "b", never},
		{"[\\^a]", "^", always},

		// Ranges.
		{"[a-c]", "a", always},
		{"[a-c]", "b", always},
		{"[a-c]", "c", always},
		{"[a-c]", "d", never},
		{"[a-c]", "`", never},
		{"[a-c]", "-", never},
		{"[b-b]", "b", always},
		{"[b-b]", "a", never},
		{"[b-b]", "c", never},
		{"[c-a]", "a", never},
		{"[c-a]", "b", never},
		{"[c-a]", "c", never},
		{"[c-a]", "-", never},
		{"[c-ax]", "x", always},
		{"[!c-a]", "b", always},
		{"[!c-a]", "-", always},
		{"[\x00-\xff]", "\x00", always},
		{"[\x00-\xff]", "\xff", always},
		{"[\x00-\xff]", "a", always},
		{"[!\x00-\xff]", "a", never},
		{"[\xfe-\xff]", "\xfd", never},
		{"[a-cx-z]", "y", always},
		{"[a-cx-z]", "d", never},
		{"[a-c-e]", "b", always},
		{"[a-c-e]", "-", always},
		{"[a-c-e]", "e", always},
		{"[a-c-e]", "d", never},
		{"[-a]", "-", always},
		{"[-a]", "a", always},
		{"[a-]", "a", always},
		{"[a-]", "-", always},
		{"[a-]", "b", never},
		{"[-]", "-", always},
		{"[--]", "-", always},
		{"[---]", "-", always},
		{"[---]", "a", never},
		{"[--a]", "0", always},
		{"[--a]", "b", never},
		{"[+--]", ",", always},
		{"[a--]", "a", never},
		{"[a--]", "-", never},
		{"[!-a]", "-", never},
		{"[!-a]", "b", always},
		{"[a-!]", "a", never},
		{"[!--/]", "-", never},
		{"[!--/]", "a", always},
		{"[!--/]", ".", never},
		{"[Z-\\]]", "\\", always},
		{"[Z-\\]]", "]", always},
		{"[Z-\\]]", "^", never},
		{"[\\[-\\]]", "\\", always},
		{"[X-[]", "Z", always},
		{"[X-[]", "[", always},
		{"[X-[]", "]", never},

		// `\` and a byte.
		{"[\\]]", "]", always},
		{"[\\]]", "\\", never},
		{"[a\\]]", "]", always},
		{"[a\\]b]", "b", always},
		{"[\\a]", "a", always},
		{"[\\a]", "\\", never},
		{"[\\\\]", "\\", always},
		{"[\\\\-a]", "]", always},
		{"[a\\-c]", "a", always},
		{"[a\\-c]", "-", always},
		{"[a\\-c]", "c", always},
		{"[a\\-c]", "b", never},
		{"[\\a-c]", "b", always},
		{"[a-\\c]", "b", always},
		{"[a-\\c]", "\\", never},
		{"[\\--0]", ".", "yynn"},
		{"[\\--0]", "0", always},
		{"[\\[:alpha:]]", "b]", never},
		{"[\\[:alpha:]]", "l]", always},

		// With way no bracket means `/`, with dot none a `.` at a beginning.
		{"[/]", "/", noWay},
		{"[!a]", "/", noWay},
		{"[+-9]", "/", noWay},
		{"[[:punct:]]", "/", noWay},
		{"[\\/]", "/", noWay},
		{"a[/]b", "a/b", noWay},
		{"a[/]b", "a[/]b", never},
		{"a[b/c]d", "abd", always},
		{"[.]", ".", noDot},
		{"[\\.]", ".", noDot},
		{"[!a]", ".", noDot},
		{"[+-9]", ".", noDot},
		{"[[:punct:]]", ".", noDot},
		{"a[.]", "a.", always},
	} {
		checkMatch(t, c.pattern, c.s, c.want)
	}
}

// D1: a `[` with which no bracket begins is a byte by itself, and what is behind it is read anew.
func TestNoBracket(t *testing.T) {
	for _, c := range []struct{ pattern, s, want string }{
		{"[", "[", always},
		{"[", "", never},
		{"[[", "[[", always},
		{"[]", "[]", always},
		{"[!", "[!", always},
		{"[!]", "[!]", always},
		{"[!]", "!", never},
		{"[^", "[^", always},
		{"[^]", "[^]", always},
		{"[^]", "^", never},
		{"[a", "[a", always},
		{"[a", "a", never},
		{"[a-", "[a-", always},
		{"[a-c", "[a-c", always},
		{"[a-c", "[b", never},
		{"[]a", "[]a", always},
		{"[\\]", "[]", always},
		{"[\\]", "[\\]", never},
		{"[a\\]", "[a]", always},
		{"[a-\\]", "[a-]", always},
		{"[*", "[abc", always},
		{"[*", "abc", never},
		{"[?", "[a", always},
		{"a[b", "a[b", always},
		{"[a[b]", "b", always},
		{"[a[b]", "[ab", never},
		{"[]b]c", "bc", always},
		{"[][b]", "[", always},
		{"[[:", "[[:", always},
		{"[[:alpha", "[[:alpha", always},
		{"[[:alpha:", "[[:alpha:", always},
		// The class is a part, and then there is no `]` for the first `[`.
		{"[[:alpha:]", "[a", always},
		{"[[:alpha:]", "[:", always},
		{"[[:alpha:]", "[b", never},
		{"[[:alpha:]", "a", never},
		{"[[:nope:]", "[n", always},
		{"[[:nope:]", "n", never},
		{"[![:nope:]", "[n", never},
		{"[![:nope:]", "[!n", always},
		{"[[:nope:]a", "[na", always},
	} {
		checkMatch(t, c.pattern, c.s, c.want)
	}
}

// D1: each class has what Go's expressions say that it has, and no byte above 127.
func TestClasses(t *testing.T) {
	names := []string{"alpha", "digit", "alnum", "upper", "lower", "xdigit", "space", "blank", "punct", "print", "graph", "cntrl"}
	for _, name := range names {
		like := regexp.MustCompile("^[[:" + name + ":]]$")
		for b := range 256 {
			s := string([]byte{byte(b)})
			has := b < 128 && like.MatchString(s)
			for pattern, want := range map[string]bool{
				"[[:" + name + ":]]":          has,
				"[![:" + name + ":]]":         !has,
				"[^[:" + name + ":]]":         !has,
				"[[:" + name + ":]\x80-\xff]": has || b > 127,
				"[a[:" + name + ":]]":         has || s == "a",
			} {
				if got, errno := glob.Match(pattern, s, false, false); got != want || errno != api.OK {
					t.Errorf("Match(%q, %q) = %t %d, want %t 0", pattern, s, got, errno, want)
				}
			}
		}
	}
}

// D1: what looks like a class and is none; and what stands behind one.
func TestAlmostClasses(t *testing.T) {
	for _, c := range []struct{ pattern, s, want string }{
		{"[[:alpha:][:digit:]]", "7", always},
		{"[[:alpha:][:digit:]]", "q", always},
		{"[[:alpha:][:digit:]]", "-", never},
		{"[_[:digit:]x]", "_", always},
		{"[_[:digit:]x]", "x", always},
		{"[_[:digit:]x]", "5", always},
		{"[[:digit:]-z]", "-", always},
		{"[[:digit:]-z]", "z", always},
		{"[[:digit:]-z]", "y", never},
		{"[[:digit:]]]", "5]", always},
		{"[][:digit:]]", "]", always},
		{"[][:digit:]]", "5", always},
		{"[:alpha:]", "a", always},
		{"[:alpha:]", ":", always},
		{"[:alpha:]", "b", never},
		{"[[:alpha]", ":", always},
		{"[[:alpha]", "b", never},
		{"[[:alpha]]", "h]", always},
		{"[[alpha:]]", "[]", always},
		{"[[:]", ":", always},
		{"[[:]", "[", always},
		{"[[:]]", ":]", always},
		{"[[::]]", ":]", always},
		{"[[::]]", "[]", always},
		{"[[:Alpha:]]", "A]", always},
		{"[[:Alpha:]]", "b]", never},
		{"[[:alpha1:]]", "1]", always},
		{"[[:al pha:]]", " ]", always},
		{"[[:alph\xe4:]]", "\xe4]", always},
		{"[[:alpha:x]]", "x]", always},
		{"[[:alpha:x]]", "b]", never},
		{"[[: alpha:]]", " ]", always},
		{"[[.a.]]", "a]", always},
		{"[[=a=]]", "=]", always},
		// The second item of a range is an item, also if it is a `[`.
		{"[A-[:alpha:]]", "B]", always},
		{"[A-[:alpha:]]", "b]", never},
		{"[A-[:nope:]]", "n]", always},
	} {
		checkMatch(t, c.pattern, c.s, c.want)
	}
}

// D2: way and dot, each alone and both.
func TestWayAndDot(t *testing.T) {
	for _, c := range []struct{ pattern, s, want string }{
		{"a/b", "a/b", always},
		{"*/b", "a/b", always},
		{"*/b", "/b", always},
		{"*/b", "x/a/b", noWay},
		{"a/*", "a/", always},
		{"a/*", "a/b/c", noWay},
		{"*/*", "a/b", always},
		{"*/*", "/", always},
		{"*/*", "a/b/c", noWay},
		{"a*/b", "a/b", always},
		{"a*b/c", "axb/c", always},
		{"a*b/c", "a/b/c", noWay},
		{"*?/*?", "ab/cd", always},
		{"a?c", "a/c", noWay},
		{"a[!b]c", "a/c", noWay},
		{"a**c", "a/c", noWay},
		{"**/c", "a/b/c", noWay},

		{".a", ".a", always},
		{"\\.a", ".a", always},
		{".*", ".", always},
		{".*", ".a", always},
		{".*", "..", always},
		{".?", "..", always},
		{".[.]", "..", always},
		{"?a", ".a", noDot},
		{"[.]a", ".a", noDot},
		{"[!b]a", ".a", noDot},
		{"*a", ".a", noDot},
		{"*.a", ".a", noDot},
		{"*\\.a", ".a", noDot},
		{"**.a", ".a", noDot},
		{"*.*", ".a", noDot},
		{"*.a", "b.a", always},
		{"*.", "..", noDot},
		{"a*", "a.", always},
		{"a?b", "a.b", always},
		{"a[.]b", "a.b", always},

		{"a/.b", "a/.b", always},
		{"a/\\.b", "a/.b", always},
		{"a\\/.b", "a/.b", always},
		{"a/.*", "a/.b", always},
		{"a/?b", "a/.b", noInner},
		{"a/[.]b", "a/.b", noInner},
		{"a/[!x]b", "a/.b", noInner},
		{"a/*b", "a/.b", noInner},
		{"a/*.b", "a/.b", noInner},
		{"a/**.b", "a/.b", noInner},
		{"a\\/*", "a/.b", noInner},
		{"a/*", "a/b.", always},
		{"a/?.b", "a/x.b", always},
		{"*/.b", "a/.b", always},
		{"*/.b", ".a/.b", noDot},
		{"*/*", "a/.b", noInner},
		{".*/*", ".a/.b", noInner},
		{".*/.*", ".a/.b", always},
		{"*/*/*", "a/b/.c", noInner},
		{"*/*/*", "a/.b/c", noInner},
		{"*/.*/*", "a/.b/c", always},
		{"*/.*/*", "a/.b/.c", noInner},
		{"/*", "/.a", noInner},
		{"//*", "//.a", noInner},
		{"/.", "/.", always},
		{"*", "/.a", noWay},
		{"*", "a/.b", noWay},
		{"a?.b", "a/.b", noWay},
		{"a?*", "a/.b", noWay},
		{"*.b", "a/.b", noWay},
		{"a./b", "a./b", always},
		{"a?/b", "a./b", always},
	} {
		checkMatch(t, c.pattern, c.s, c.want)
	}
}

// D1, D2: bytes of every value, as each kind of piece and as what it means.
func TestEveryByte(t *testing.T) {
	for b := range 256 {
		s := string([]byte{byte(b)})
		plain, wild := always, always
		switch s {
		case "/":
			wild = noWay
		case ".":
			wild = noDot
		}
		checkMatch(t, "\\"+s, s, plain)
		checkMatch(t, "[\\"+s+"]", s, wild)
		checkMatch(t, "[\\"+s+"-\\"+s+"]", s, wild)
		checkMatch(t, "?", s, wild)
		checkMatch(t, "*", s, wild)
		checkMatch(t, "[!\\"+s+"]", s, never)
		checkMatch(t, "[^\\"+s+"]", s, never)
		if !strings.Contains("*?[\\", s) {
			checkMatch(t, s, s, plain)
			checkMatch(t, s+"a", s+"a", plain)
		}
		other := string([]byte{byte(b + 1)})
		checkMatch(t, "\\"+s, other, never)
		checkMatch(t, "[\\"+s+"]", other, never)
	}
}

// D1, D2: the errors and their places.
func TestErrors(t *testing.T) {
	long := strings.Repeat("a", 201)
	for _, c := range []struct {
		s     string
		errno api.Errno
		place int
	}{
		{"\\", api.ErrText, 1},
		{"a\\", api.ErrText, 2},
		{"\\\\\\", api.ErrText, 3},
		{"*?\\", api.ErrText, 3},
		{"[a]\\", api.ErrText, 4},
		{"[a\\", api.ErrText, 3},
		{"[\\", api.ErrText, 2},
		{"[!\\", api.ErrText, 3},
		{"[a-\\", api.ErrText, 4},
		{"[[:alpha:]\\", api.ErrText, 11},
		{"[[:nope:]\\", api.ErrText, 10},
		{"\xff\\", api.ErrText, 2},
		{strings.Repeat("a", 199) + "\\", api.ErrText, 200},
		{"[[:nope:]]", api.ErrRange, 0},
		{"[[:a:]]", api.ErrRange, 0},
		{"[[:alphas:]]", api.ErrRange, 0},
		{"[[:word:]]", api.ErrRange, 0},
		{"[[:ascii:]]", api.ErrRange, 0},
		{"[![:nope:]]", api.ErrRange, 0},
		{"[^[:nope:]]", api.ErrRange, 0},
		{"[][:nope:]]", api.ErrRange, 0},
		{"a[[:nope:]]", api.ErrRange, 1},
		{"\\[[[:nope:]]", api.ErrRange, 2},
		{"[a][[:nope:]]", api.ErrRange, 3},
		{"[ab[:nope:]c]", api.ErrRange, 0},
		{"[[:alpha:][:nope:]]", api.ErrRange, 0},
		{"[[:nope:][:alpha:]]", api.ErrRange, 0},
		{"[[:nope:]]]", api.ErrRange, 0},
		{"[[:nope:]]\\", api.ErrRange, 0},
		{"ab[[:nope:]]c[[:nope:]]", api.ErrRange, 2},
		{"[[:alpha:]][[:nope:]]", api.ErrRange, 11},
		{"[[[:nope:]]", api.ErrRange, 0},
		{"[[:alpha:][[:nope:]]", api.ErrRange, 0},
		{"[]abc[[:nope:]]", api.ErrRange, 0},
		{"[[:nope:]\\]]", api.ErrRange, 0},
		{strings.Repeat("a", 190) + "[[:nope:]]", api.ErrRange, 190},
		{long, api.ErrLong, 0},
		{long + "\\", api.ErrLong, 0},
		{"[[:nope:]]" + long, api.ErrLong, 0},
		{strings.Repeat("*", 100000), api.ErrLong, 0},
	} {
		for _, w := range ways {
			e, errno, place := glob.Parse(c.s, w.way)
			if errno != c.errno || place != c.place || !reflect.DeepEqual(e, api.Expr{}) {
				t.Errorf("Parse(%.30q, %t) = %v %d %d, want nothing, %d %d", c.s, w.way, e, errno, place, c.errno, c.place)
			}
			for _, s := range []string{"", "a", "\\", c.s} {
				if got, errno := glob.Match(c.s, s, w.way, w.dot); got || errno != c.errno {
					t.Errorf("Match(%.30q, %.30q, %t, %t) = %t %d, want false %d", c.s, s, w.way, w.dot, got, errno, c.errno)
				}
			}
		}
	}
}

// D1, D2: MaxPattern, at it and just past it.
func TestMaxPattern(t *testing.T) {
	for _, piece := range []string{"a", "*", "?", "[", "\\a", "[a]", "]", "\x00", "[!b]"} {
		for n := 196; n <= 204; n++ {
			if n%len(piece) > 0 {
				continue
			}
			pattern := strings.Repeat(piece, n/len(piece))
			want := api.OK
			if n > 200 {
				want = api.ErrLong
			}
			if _, errno, place := glob.Parse(pattern, true); errno != want || place != 0 {
				t.Errorf("Parse of %d bytes of %q = %d %d, want %d 0", n, piece, errno, place, want)
			}
			if _, errno := glob.Match(pattern, "", false, false); errno != want {
				t.Errorf("Match of %d bytes of %q = %d, want %d", n, piece, errno, want)
			}
		}
	}
	long := strings.Repeat("a", 200)
	checkMatch(t, long, long, always)
	checkMatch(t, long, long[1:], never)
	checkMatch(t, long, long+"a", never)
	checkMatch(t, strings.Repeat("*", 200), "", always)
	checkMatch(t, strings.Repeat("*", 200), long, always)
	checkMatch(t, strings.Repeat("?", 200), long, always)
	checkMatch(t, strings.Repeat("*a", 100), long[:99], never)
	checkMatch(t, strings.Repeat("[", 200), strings.Repeat("[", 200), always)
}

// D2: a text may be long, and no pattern makes the way through it longer than it is wide.
func TestLongTexts(t *testing.T) {
	long := strings.Repeat("a", 20000)
	checkMatch(t, strings.Repeat("*a", 100), long, always)
	checkMatch(t, strings.Repeat("*a", 99)+"*b", long, never)
	checkMatch(t, strings.Repeat("a*", 99)+"?", long, always)
	checkMatch(t, "*", long+"/", noWay)
	checkMatch(t, "a", long, never)
}

// D1: what Parse answers is a set like each other.
func TestParsedSets(t *testing.T) {
	parse := func(s string, way bool) api.Expr {
		e, errno, _ := glob.Parse(s, way)
		if errno != api.OK {
			t.Fatalf("Parse(%q) = %d", s, errno)
		}
		return e
	}
	for _, c := range []struct {
		s      string
		states int
	}{
		{"", 2}, {"*", 1}, {"**", 1}, {"?", 3}, {"a", 3}, {"*a", 2}, {"a*", 3}, {"*a*", 2}, {"[c-a]", 1}, {"a[c-a]", 1}, {"*ab", 3}, {"*a?", 4},
	} {
		if n, errno := auto.States(parse(c.s, false)); n != c.states || errno != api.OK {
			t.Errorf("States of %q = %d %d, want %d 0", c.s, n, errno, c.states)
		}
	}
	for _, c := range []struct {
		a, b   string
		way    bool
		text   string
		differ bool
	}{
		{"*", "**", false, "", false},
		{"*", "**", true, "", false},
		{"?*", "*?", true, "", false},
		{"?", "[!/]", true, "", false},
		{"?", "[!/]", false, "/", true},
		{"*", "?*", false, "", true},
		{"[a-c]", "[cba]", false, "", false},
		{"[a-c]", "[a-d]", false, "d", true},
		{"[[:alnum:]]", "[[:alpha:][:digit:]]", false, "", false},
		{"[[:graph:]]", "[[:alnum:][:punct:]]", true, "", false},
		{"[[:print:]]", "[[:graph:]]", true, " ", true},
		{"[c-a]", "[!\x00-\xff]", false, "", false},
		{"*a*", "*b*", false, "a", true},
		{"\\a", "[a]", true, "", false},
		{"/", "[/]", true, "/", true},
	} {
		text, differ, errno := auto.Differ(parse(c.a, c.way), parse(c.b, c.way))
		if text != c.text || differ != c.differ || errno != api.OK {
			t.Errorf("%q and %q differ: %q %t %d, want %q %t 0", c.a, c.b, text, differ, errno, c.text, c.differ)
		}
	}
}

// D1: two calls share nothing that could be written to.
func TestParsedMemory(t *testing.T) {
	one, _, _ := glob.Parse("a*[b]", true)
	other, _, _ := glob.Parse("a*[b]", true)
	if !reflect.DeepEqual(one, other) {
		t.Errorf("Parse answers %v and then %v", one, other)
	}
	for k := range one.Kids {
		one.Kids[k] = api.Expr{}
	}
	again, _, _ := glob.Parse("a*[b]", true)
	if !reflect.DeepEqual(again, other) {
		t.Errorf("Parse answers %v and then %v", other, again)
	}
}

// A bracket as regular expressions write it: what it means and how long it is; what does not begin with one.
func TestPlainBracket(t *testing.T) {
	for _, c := range []struct {
		s, has string
		length int
	}{
		{"[a]", "a", 3},
		{"[ba]x", "ab", 4},
		{"[]a]]", "]a", 4},
		{"[!a]", "!a", 4},
		{`[\]]`, `\`, 3},
		{"[^\x00-b\x64-\xff]", "c", 9},
		{"[[:digit:]-]*", "-0123456789", 12},
		{"[b-a]", "", 5},
	} {
		if has, length, ok := glob.PlainBracket(c.s); has != c.has || length != c.length || !ok {
			t.Errorf("PlainBracket(%q) = %q %d %t, want %q %d true", c.s, has, length, ok, c.has, c.length)
		}
	}
	for _, s := range []string{"", "a", "a]", "]", "ab]", "a[b]", "[", "[]", "[^]", "[[:nope:]]", "[a", `\[a]`} {
		if has, length, ok := glob.PlainBracket(s); has != "" || length != 0 || ok {
			t.Errorf("PlainBracket(%q) = %q %d %t, want none", s, has, length, ok)
		}
	}
}
