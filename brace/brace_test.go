package brace_test

import (
	"slices"
	"strconv"
	"strings"
	"testing"

	"sieve/api"
	"sieve/brace"
)

// check holds the texts of a text against those that are wanted.
func check(t *testing.T, s string, want ...string) {
	t.Helper()
	if got, errno := brace.Expand(s); !slices.Equal(got, want) || errno != api.OK {
		t.Errorf("Expand(%q) = %q %d, want %q 0", s, got, errno, want)
	}
}

func checkError(t *testing.T, s string, want api.Errno) {
	t.Helper()
	if got, errno := brace.Expand(s); len(got) > 0 || errno != want {
		t.Errorf("Expand(%.60q) = %d texts, %d, want none, %d", s, len(got), errno, want)
	}
}

// E1: a `{` that begins no group: the text stays as it is.
func TestNoGroup(t *testing.T) {
	for _, s := range []string{
		"", "a", "abc", "\x00\xff", "ä", ",", "a,b", "..", "1..3", "a..c", "/", "*?[a]",
		// Not closed, or nothing to close.
		"{", "}", "}{", "{{", "}}", "{a", "a}", "{a,b", "a,b}", "{a,b{", "{1..3", "1..3}", "{a..c", "}a,b{", "{{a,b",
		// Closed, but neither a list nor a row.
		"{}", "{a}", "{{}}", "{{a}}", "{a{b}c}", "{}{}", "{.}", "{..}", "{...}", "{ }", "{a b}", "a{}b", "{}}", "}{}",
		// Almost a row.
		"{1..}", "{..1}", "{1.3}", "{1...3}", "{1..3..5}", "{1..3 }", "{ 1..3}", "{1 ..3}", "{+1..3}", "{1..+3}", "{--1..3}", "{1..--3}", "{-..3}", "{1..-}",
		"{1234567..1}", "{1..1234567}", "{0000001..2}", "{-1234567..1}", "{1..0x3}", "{1e1..3}", "{1..3.}", "{.1..3}",
		"{a..}", "{..a}", "{a.c}", "{a...c}", "{a..c..e}", "{a..c }", "{ab..c}", "{a..bc}", "{a..3}", "{1..c}", "{-a..c}", "{a..-c}", "{ä..z}", "{a..\xe4}", "{@..C}", "{A..[}", "{`..c}", "{a..{}",
		"{\xc1..\xc3}", "{\x01..\x03}", "{a..c..}", "{..}..}",
		"{{1}..3}", "{1..{3}}",
	} {
		check(t, s, s)
	}
}

// E1, E2: lists.
func TestLists(t *testing.T) {
	check(t, "{a,b}", "a", "b")
	check(t, "{b,a}", "b", "a")
	check(t, "{a,b,c}", "a", "b", "c")
	check(t, "{a,a}", "a", "a")
	check(t, "x{a,b}", "xa", "xb")
	check(t, "{a,b}x", "ax", "bx")
	check(t, "x{a,b}y", "xay", "xby")
	check(t, "{,}", "", "")
	check(t, "{,,}", "", "", "")
	check(t, "{,a}", "", "a")
	check(t, "{a,}", "a", "")
	check(t, "x{,y}", "x", "xy")
	check(t, "{a,,b}", "a", "", "b")
	check(t, "a,{b,c},d", "a,b,d", "a,c,d")
	check(t, "{a b,c d}", "a b", "c d")
	check(t, "{\x00,\xff}", "\x00", "\xff")
	check(t, "{*.c,[ab]?}", "*.c", "[ab]?")
	check(t, "{a/b,c}/d", "a/b/d", "c/d")
	check(t, "{1..3,a}", "1..3", "a")
	check(t, "{a..c,1..3}", "a..c", "1..3")
	check(t, "}{a,b}", "}a", "}b")
	check(t, "{a,b}}", "a}", "b}")
	check(t, "{a,b}{", "a{", "b{")
	check(t, "{a,b},c}", "a,c}", "b,c}")
}

// E1, E2: rows of numbers.
func TestNumbers(t *testing.T) {
	check(t, "{1..3}", "1", "2", "3")
	check(t, "{3..1}", "3", "2", "1")
	check(t, "{1..1}", "1")
	check(t, "{0..0}", "0")
	check(t, "{-1..1}", "-1", "0", "1")
	check(t, "{1..-1}", "1", "0", "-1")
	check(t, "{-3..-1}", "-3", "-2", "-1")
	check(t, "{-1..-3}", "-1", "-2", "-3")
	check(t, "{-0..1}", "0", "1")
	check(t, "{1..-0}", "1", "0")
	check(t, "{-0..-0}", "0")
	check(t, "{01..2}", "1", "2")
	check(t, "{08..010}", "8", "9", "10")
	check(t, "{000001..000002}", "1", "2")
	check(t, "{-01..001}", "-1", "0", "1")
	check(t, "{9..11}", "9", "10", "11")
	check(t, "{999998..999999}", "999998", "999999")
	check(t, "{-999999..-999998}", "-999999", "-999998")
	check(t, "x{1..2}y", "x1y", "x2y")
	check(t, "{1..2}..3}", "1..3}", "2..3}")
	check(t, "{1..2}3", "13", "23")
}

// E1, E2: rows of letters.
func TestLetters(t *testing.T) {
	check(t, "{a..c}", "a", "b", "c")
	check(t, "{c..a}", "c", "b", "a")
	check(t, "{a..a}", "a")
	check(t, "{A..C}", "A", "B", "C")
	check(t, "{z..z}", "z")
	check(t, "{Y..Z}", "Y", "Z")
	check(t, "{Z..a}", "Z", "[", "\\", "]", "^", "_", "`", "a")
	check(t, "{a..Z}", "a", "`", "_", "^", "]", "\\", "[", "Z")
	check(t, "x{y..z}", "xy", "xz")
	all, errno := brace.Expand("{A..z}")
	if errno != api.OK || len(all) != 'z'-'A'+1 {
		t.Errorf("Expand({A..z}) = %d texts, %d", len(all), errno)
	}
	for k, text := range all {
		if text != string(rune('A'+k)) {
			t.Errorf("text %d of {A..z} is %q", k, text)
		}
	}
}

// E1, E2: groups within each other and side by side, and beside a `{` that begins none.
func TestSeveralGroups(t *testing.T) {
	check(t, "{a,b}{1,2}", "a1", "a2", "b1", "b2")
	check(t, "{1..3}{a,b}", "1a", "1b", "2a", "2b", "3a", "3b")
	check(t, "{a,b}x{c..d}y{2..1}", "axcy2", "axcy1", "axdy2", "axdy1", "bxcy2", "bxcy1", "bxdy2", "bxdy1")
	check(t, "{,a}{,b}", "", "b", "a", "ab")
	check(t, "a{b,{1..3}}c", "abc", "a1c", "a2c", "a3c")
	check(t, "{a,{b,c}}", "a", "b", "c")
	check(t, "{{a,b},c}", "a", "b", "c")
	check(t, "{{a,b},{c,d}}", "a", "b", "c", "d")
	check(t, "{{a,b}{c,d},e}", "ac", "ad", "bc", "bd", "e")
	check(t, "{x{a,b}y,z}", "xay", "xby", "z")
	check(t, "{a,b{c,d{e,f}}}", "a", "bc", "bde", "bdf")
	check(t, "{{{a,b}}}", "{{a}}", "{{b}}")
	check(t, "{{1..2}}", "{1}", "{2}")
	check(t, "{a{b,c}d}", "{abd}", "{acd}")
	check(t, "{a{b,c}d{e..f}}", "{abde}", "{abdf}", "{acde}", "{acdf}")
	check(t, "{{a,b}", "{a", "{b")
	check(t, "{{{a,b}", "{{a", "{{b")
	check(t, "{x,{a,b}", "{x,a", "{x,b")
	check(t, "{a,b}{c", "a{c", "b{c")
	check(t, "{a,b}{c,", "a{c,", "b{c,")
	check(t, "{}{a,b}", "{}a", "{}b")
	check(t, "{a}{b,c}", "{a}b", "{a}c")
	check(t, "{a,b}{c}", "a{c}", "b{c}")
	check(t, "{a,{b}}", "a", "{b}")
	check(t, "{{},{}}", "{}", "{}")
	check(t, "{{a,b}}{c,d}", "{a}c", "{a}d", "{b}c", "{b}d")
	check(t, "{{1..2},{b..a}}x", "1x", "2x", "bx", "ax")
	check(t, "{1..2,{3..4}}", "1..2", "3", "4")
	check(t, "{a,b}}{c,d}", "a}c", "a}d", "b}c", "b}d")
	check(t, "{1..{2,3}}", "{1..2}", "{1..3}")
	check(t, "{{1,2}..3}", "{1..3}", "{2..3}")
}

// E1: a byte behind a `\` is no sign, and the `\` stays.
func TestEscapes(t *testing.T) {
	for _, s := range []string{
		"\\", "\\\\", "\\a", "\\{", "\\}", "\\,", "\\{a,b}", "{a,b\\}", "{a\\,b}", "\\{a,b\\}", "{\\a}", "{a,b\\", "{a,b\\\\\\}", "{a\\\\\\,b}", "\\\\\\{a,b}",
		"{\\1..3}", "{1\\..3}", "{1..\\3}", "{1..3\\}", "{a..c\\}", "{\\a..c}", "{a..\\c}", "\\{1..3}", "{a\\}",
	} {
		check(t, s, s)
	}
	check(t, "\\\\{a,b}", "\\\\a", "\\\\b")
	check(t, "{a\\\\,b}", "a\\\\", "b")
	check(t, "{a,b\\\\}", "a", "b\\\\")
	check(t, "{a\\,b,c}", "a\\,b", "c")
	check(t, "{a,\\b}", "a", "\\b")
	check(t, "{\\{,a}", "\\{", "a")
	check(t, "{\\},a}", "\\}", "a")
	check(t, "{a,\\}}", "a", "\\}")
	check(t, "{a,b\\}}", "a", "b\\}")
	check(t, "{a,b\\}c}", "a", "b\\}c")
	check(t, "{\\{a,b}", "\\{a", "b")
	check(t, "\\{{a,b}", "\\{a", "\\{b")
	check(t, "{a,b}\\", "a\\", "b\\")
	check(t, "{a,b}\\{c,d}", "a\\{c,d}", "b\\{c,d}")
	check(t, "{a,{b\\,c,d}}", "a", "b\\,c", "d")
	check(t, "{\\,,\\,}", "\\,", "\\,")
	check(t, "\\a{b,c}", "\\ab", "\\ac")
	check(t, "{{a,b}\\,c}", "{a\\,c}", "{b\\,c}")
	check(t, "{\\\\,\\\\\\,}", "\\\\", "\\\\\\,")
}

// E1: bytes of every value, by themselves and as pieces.
func TestEveryByte(t *testing.T) {
	for b := range 256 {
		s := string([]byte{byte(b)})
		check(t, s, s)
		check(t, "\\"+s, "\\"+s)
		check(t, "{\\"+s+",x}", "\\"+s, "x")
		check(t, "{\\"+s+"}", "{\\"+s+"}")
		switch {
		case 'a' <= b && b <= 'z' || 'A' <= b && b <= 'Z' || '0' <= b && b <= '9':
			check(t, "{"+s+".."+s+"}", s)
		case b == ',':
			check(t, "{,..,}", "", "..", "")
		default:
			check(t, "{"+s+".."+s+"}", "{"+s+".."+s+"}")
		}
		if !strings.Contains("{},\\", s) {
			check(t, "{"+s+",x}", s, "x")
		}
	}
}

// E2: MaxPattern, at it and just past it.
func TestMaxPattern(t *testing.T) {
	for _, n := range []int{199, 200} {
		check(t, strings.Repeat("a", n), strings.Repeat("a", n))
		check(t, strings.Repeat("{", n), strings.Repeat("{", n))
		long := strings.Repeat("x", n-5)
		check(t, "{a,b}"+long, "a"+long, "b"+long)
		check(t, long+"{1..1", long+"{1..1")
	}
	for _, s := range []string{"a", "{", "}", "\\", "\xff", "{a,b}"} {
		checkError(t, s+strings.Repeat("a", 201-len(s)), api.ErrLong)
		checkError(t, strings.Repeat(s, 201), api.ErrLong)
	}
	checkError(t, "{1..201}"+strings.Repeat("a", 193), api.ErrLong)
	checkError(t, strings.Repeat("{a,b}", 100000), api.ErrLong)
}

// E2: MaxTexts, at it and just past it, in whatever way so many come about.
func TestMaxTexts(t *testing.T) {
	for _, s := range []string{
		"{1..200}", "{200..1}", "{-100..99}", "{999999..999800}", "{1..20}{a..j}", "{1..2}{1..4}{1..5}{1..5}",
		"{{1..100},{a..z},{1..74}}", "{a,{1..199}}", "{{1..199},a}", "{1..100}{a,a}", "{,,,,,,,}{1..25}",
	} {
		got, errno := brace.Expand(s)
		if len(got) != 200 || errno != api.OK {
			t.Errorf("Expand(%q) = %d texts, %d, want 200, 0", s, len(got), errno)
		}
	}
	for _, s := range []string{
		"{1..201}", "{201..1}", "{-100..100}", "{0..999999}", "{-999999..999999}", "{999999..-999999}", "{1..3}{1..67}", "{1..67}{1..3}", "{a,b}{1..101}",
		"{{1..100},{a..z},{1..75}}", "{a,{1..200}}", "{{1..200},a}", "{1..101}{a,a}", "x{1..201}y", "{{1..201}}", "{1..2}{1..2}{1..2}{1..2}{1..2}{1..2}{1..2}{1..2}",
		strings.Repeat("{,}", 66), strings.Repeat("{a,b}", 40), strings.Repeat("{0..999999}", 18), strings.Repeat("{A..z}", 33), "{a,b}{1..201}", "{1..200}{a,b}",
	} {
		checkError(t, s, api.ErrMany)
	}
	for n := 199; n <= 202; n++ {
		got, errno := brace.Expand("{1.." + strconv.Itoa(n) + "}")
		if n <= 200 && (len(got) != n || errno != api.OK) || n > 200 && (len(got) > 0 || errno != api.ErrMany) {
			t.Errorf("Expand of a row of %d numbers = %d texts, %d", n, len(got), errno)
		}
	}
}

// E2: lists as deep, and as many unclosed ones, as a text has room for.
func TestDeep(t *testing.T) {
	deep := strings.Repeat("{a,", 50) + "b" + strings.Repeat("}", 49)
	check(t, deep, append(slices.Repeat([]string{"{a,a"}, 49), "{a,b")...)
	check(t, strings.Repeat("{", 100)+strings.Repeat("}", 100), strings.Repeat("{", 100)+strings.Repeat("}", 100))
	check(t, strings.Repeat("{", 97)+"a,b"+strings.Repeat("}", 97), strings.Repeat("{", 96)+"a"+strings.Repeat("}", 96), strings.Repeat("{", 96)+"b"+strings.Repeat("}", 96))
	got, errno := brace.Expand(strings.Repeat("{,}", 7) + strings.Repeat("{", 179))
	if len(got) != 128 || errno != api.OK {
		t.Errorf("a text with many unclosed signs has %d texts, %d", len(got), errno)
	}
}

// E2: a list that is answered is new memory.
func TestNewMemory(t *testing.T) {
	one, _ := brace.Expand("{a,b}")
	one[0] = "x"
	check(t, "{a,b}", "a", "b")
}
