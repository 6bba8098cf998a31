package ignore_test

import (
	"strings"
	"testing"

	"sieve/api"
	"sieve/ignore"
)

func checkHits(t *testing.T, r api.Rule, way string, dir, want bool) {
	t.Helper()
	if got := ignore.Hits(r, way, dir); got != want {
		t.Errorf("Hits(%.80v, %.80q, %t) = %t, want %t", r, way, dir, got, want)
	}
}

// hitsAll asks each of some ways, parted by blanks (`.` stands for the empty one), as a file's and as a directory's, with Not and without: Not changes nothing.
func hitsAll(t *testing.T, signs, pattern, ways string, want bool) {
	t.Helper()
	for way := range strings.FieldsSeq(ways) {
		if way == "." {
			way = ""
		}
		for _, not := range []string{"", "!"} {
			r := rule(signs+not, pattern)
			checkHits(t, r, way, false, want && !r.Dir)
			checkHits(t, r, way, true, want)
		}
	}
}

// G2: without Fixed the last name alone is asked.
func TestHitsName(t *testing.T) {
	for _, signs := range []string{"", "d"} {
		for _, c := range []struct{ pattern, yes, no string }{
			{"a", "a x/a x/y/a /a a/ /x/a// //a", "b aa x/b a/b . / A"},
			{"*.c", "y.c x/y.c .c x/.c", "y.c/x y.h yc ."},
			{"*", "a .a a/b .ignore a/ .", "/ //"},
			{"**", "a .a a/b x/y/z .", "/"},
			{"?", "a x/b .x/a", "ab / ."},
			{"[!a]", "b x/b x/", "a / ."},
			{`\*`, "* a/*", "a"},
			{"a*b", "ab axb x/a.b", "a/b"},
			{"", ".", "a / a/b"},
			{"/", "/ //", ". a a/"},
			{"a/b", "", "a/b b a ."},
			{"**/a", "", "a b/a x/y/a /"},
			{"/a", "", "a /a"},
			{"[", "[ x/[", "a"},
		} {
			hitsAll(t, signs, c.pattern, c.yes, true)
			hitsAll(t, signs, c.pattern, c.no, false)
		}
	}
}

// G2: with Fixed all parts are asked, one by one.
func TestHitsParts(t *testing.T) {
	for _, signs := range []string{"f", "df"} {
		for _, c := range []struct{ pattern, yes, no string }{
			{"a", "a /a a/ //a//", "x/a a/b b . / aa"},
			{"a/b", "a/b /a/b a//b a/b/", "x/a/b a/b/c a b b/a ab . /"},
			{"a/b/c", "a/b/c", "a/b b/c a/x/c a/b/c/d"},
			{"*", "a .a /a/", "a/b . /"},
			{"*/*", "a/b .a/.b", "a a/b/c ."},
			{"a/*", "a/b a/.b a/*", "a a/b/c b/a"},
			{"*.c/?", "x.c/y .c/.", "x.c x.c/yz y/x.c"},
			{"a*b", "ab axb", "a/b"},
			{"a?b", "axb", "a/b ab"},
			{"a[!x]b", "ayb", "a/b"},
			{"/a", "a /a", "x/a"},
			{"a/", "a a/", "x/a a/b"},
			{"//a///b//", "a/b", "a b x/a/b"},
			{"", ". / //", "a a/b"},
			{"/", ". / //", "a a/b"},
			{"[a/b]", "[a/b]", "a b /"},
			{"./a", "./a", "a"},
			{"a/../b", "a/../b", "b"},
			{"[a-c]/[[:digit:]]", "b/7", "d/7 b/x"},
		} {
			hitsAll(t, signs, c.pattern, c.yes, true)
			hitsAll(t, signs, c.pattern, c.no, false)
		}
	}
}

// G2: `**`.
func TestHitsAnyParts(t *testing.T) {
	for _, signs := range []string{"f", "df"} {
		for _, c := range []struct{ pattern, yes, no string }{
			{"**/b", "b x/b x/y/b x/y/z/b b/b", "a b/x x/b/y . /"},
			{"**/a/b", "a/b x/a/b x/y/a/b a/b/a/b", "a b a/x/b a/b/x"},
			{"a/**", "a/x a/x/y a/x/y/z a/a a//x", "a a/ b b/a x/a/y . /"},
			{"a/b/**", "a/b/c a/b/c/d", "a a/b a/c/b"},
			{"a/**/b", "a/b a/x/b a/x/y/b a/b/b a/a/b", "a b ab x/a/b a/b/x ."},
			{"**", "a a/b a/b/c . / .a", ""},
			{"**/**", "a a/b a/b/c", ". /"},
			{"**/**/**", "a a/b", ". /"},
			{"a/**/**", "a/b a/b/c", "a b"},
			{"**/**/a", "a x/a x/y/a", "b a/x ."},
			{"a/**/**/b", "a/b a/x/b a/x/y/b", "a b"},
			{"**/a/**", "a/x x/a/y x/y/a/z/w a/a a/a/a", "a x/a x/y ."},
			{"**/a/**/b", "a/b x/a/b a/x/b x/a/y/b a/a/b/b", "a b x/b a/b/x"},
			{"**/a/**/a/**/a", "a/a/a x/a/y/a/z/a a/a/a/a", "a/a x/a/a a/a/a/x"},
			{"*/**", "a/b a/b/c", "a ."},
			{"**/*", "a a/b a/b/c", ". /"},
			{"**/*.c", "x.c a/x.c .c", "x.h x.c/y"},
			{"*/**/*", "a/b a/b/c", "a ."},
			{"**/", "a a/b . /", ""},
			{"a/**//", "a/x a/x/y", "a"},
			// These have a `**` in them, but are none: they mean one part.
			{"***", "a aa", "a/b ."},
			{"a**", "a ab", "a/b b"},
			{"a**/b", "a/b ax/b", "a/x/b"},
			{`\**`, "* *a", "a a/b"},
			{"*?", "a ab", "a/b"},
			{"[*]*", "* *a", "a a/b"},
		} {
			hitsAll(t, signs, c.pattern, c.yes, true)
			hitsAll(t, signs, c.pattern, c.no, false)
		}
	}
}

// G2: a Pattern that glob.Parse does not take hits nothing.
func TestHitsNothing(t *testing.T) {
	long, longest := strings.Repeat("x", 200), strings.Repeat("x", 201)
	for _, signs := range []string{"", "d", "f", "df"} {
		for _, pattern := range []string{"[[:nope:]]", `\`, `a\`, longest} {
			hitsAll(t, signs, pattern, `. / a [[:nope:]] \ a\ a: `+longest, false)
		}
		hitsAll(t, signs, long, long, true)
	}
	for _, signs := range []string{"f", "df"} {
		hitsAll(t, signs, "a/[[:nope:]]", "a/[[:nope:]] a/n a a/n/a", false)
		hitsAll(t, signs, "[[:nope:]]/a", "[[:nope:]]/a n/a a", false)
		hitsAll(t, signs, "**/[[:nope:]]", "[[:nope:]] n a/n .", false)
		hitsAll(t, signs, `a\/b`, `a/b a\/b a b`, false)
		hitsAll(t, signs, `**/a\`, `a a\ x/a\`, false)
		hitsAll(t, signs, "a/"+longest, "a/"+longest, false)
		// Each part could be taken, but not the whole.
		hitsAll(t, signs, "[[:nope:]/]", "[n/] [[:nope:]/] [:/]", false)
		hitsAll(t, signs, long+"/"+long, long+"/"+long, false)
		hitsAll(t, signs, strings.Repeat("a/", 100)+"a", strings.Repeat("a/", 100)+"a", false)
		hitsAll(t, signs, strings.Repeat("a/", 100), strings.Repeat("a/", 100), true)
		// The whole could be taken, and so can each part: a bracket does not reach over a `/`.
		hitsAll(t, signs, "[a/b]x", "[a/b]x", true)
		hitsAll(t, signs, "[a/b]x", "ax bx /x", false)
	}
}

// G2: of the rules that Read answers.
func TestHitsRead(t *testing.T) {
	for _, c := range []struct {
		line, way string
		file, dir bool
	}{
		{"a", "x/a", true, true}, {"a/", "x/a", false, true}, {"/a", "x/a", false, false}, {"/a/", "a", false, true},
		{`a\ `, "a ", true, true}, {`a\ `, "a", false, false}, {"a ", "a", true, true}, {"a ", "a ", false, false},
		{`\#x`, "#x", true, true}, {`\!x`, "!x", true, true}, {"!!x", "!x", true, true}, {"a//", "a", false, true}, {"a//", "x/a", false, false},
		{"///", "", false, true}, {"///", "a", false, false},
	} {
		r := ignore.Read(c.line)[0]
		checkHits(t, r, c.way, false, c.file)
		checkHits(t, r, c.way, true, c.dir)
	}
}

// G2: however a path could be shared out among several `**`, and however long it is, the call ends soon.
func TestHitsEnds(t *testing.T) {
	way := strings.Repeat("a/", 5000)
	hitsAll(t, "f", strings.Repeat("**/a/", 39)+"b", way, false)
	hitsAll(t, "f", strings.Repeat("**/a/", 39)+"b", way+"b", true)
	hitsAll(t, "f", strings.Repeat("**/", 60)+"b", way, false)
	hitsAll(t, "f", strings.Repeat("**/", 1<<20), way, false)
	hitsAll(t, "", strings.Repeat("*a", 99)+"b", strings.Repeat("a", 2000), false)
	hitsAll(t, "f", "**/b", strings.Repeat("/", 1<<20)+"b", true)
}
