package ignore_test

import (
	"slices"
	"strings"
	"testing"

	"sieve/api"
	"sieve/ignore"
)

// rule makes one of its pattern and of signs: `!` for Not, `d` for Dir, `f` for Fixed.
func rule(signs, pattern string) api.Rule {
	has := func(sign string) bool { return strings.Contains(signs, sign) }
	return api.Rule{Not: has("!"), Dir: has("d"), Fixed: has("f"), Pattern: pattern}
}

func checkRead(t *testing.T, content string, want ...api.Rule) {
	t.Helper()
	if got := ignore.Read(content); !slices.Equal(got, want) {
		t.Errorf("Read(%.80q) = %.200v, want %.200v", content, got, want)
	}
}

// lineRules tells which rule each of some lines has.
type lineRules []struct {
	line, signs, pattern string
}

// check asks each line alone and with lines around it.
func (rows lineRules) check(t *testing.T) {
	t.Helper()
	first, last := rule("", "first"), rule("!", "last")
	for _, c := range rows {
		r := rule(c.signs, c.pattern)
		checkRead(t, c.line, r)
		checkRead(t, c.line+"\n", r)
		checkRead(t, "first\n"+c.line+"\n!last", first, r, last)
	}
}

func checkNoRule(t *testing.T, lines ...string) {
	t.Helper()
	first, last := rule("", "first"), rule("!", "last")
	for _, line := range lines {
		checkRead(t, line)
		checkRead(t, line+"\n")
		checkRead(t, "first\n"+line+"\n!last", first, last)
	}
}

// G1: lines, their order, and such as are empty or have no end.
func TestLines(t *testing.T) {
	a, b, c := rule("", "a"), rule("", "b"), rule("", "c")
	checkRead(t, "")
	checkRead(t, "\n")
	checkRead(t, "\n\n\n")
	checkRead(t, "a", a)
	checkRead(t, "a\n", a)
	checkRead(t, "\na", a)
	checkRead(t, "\n\na\n\n\nb\n\n", a, b)
	checkRead(t, "a\nb\nc", a, b, c)
	checkRead(t, "c\nb\na\n", c, b, a)
	checkRead(t, "a\na\n!a\na", a, a, rule("!", "a"), a)
	checkRead(t, "a\r\nb\r", rule("", "a\r"), rule("", "b\r"))
	checkRead(t, "a\x00b\n\x00", rule("", "a\x00b"), rule("", "\x00"))
	checkRead(t, "a\vb\fc\n\u2028\n", rule("", "a\vb\fc"), rule("", "\u2028"))
	checkRead(t, "*.c\n# no\n\n!x.c\n[[:nope:]]\nsub/", rule("", "*.c"), rule("!", "x.c"), rule("d", "sub"))
}

// G1: blanks at a line's end and elsewhere.
func TestBlanks(t *testing.T) {
	lineRules{
		{"a ", "", "a"},
		{"a     ", "", "a"},
		{`a\ `, "", `a\ `},
		{`a\  `, "", `a\ `},
		{`a\     `, "", `a\ `},
		{`a\\ `, "", `a\\`},
		{`a\\   `, "", `a\\`},
		{`a\\\ `, "", `a\\\ `},
		{`a\\\   `, "", `a\\\ `},
		{`a\\\\ `, "", `a\\\\`},
		{`a\\\\\  `, "", `a\\\\\ `},
		{`\ `, "", `\ `},
		{`\  `, "", `\ `},
		{`\\ `, "", `\\`},
		{`a \ `, "", `a \ `},
		{`a \  `, "", `a \ `},
		{`a\ \ `, "", `a\ \ `},
		{`a\ \   `, "", `a\ \ `},
		{`a\ b  `, "", `a\ b`},
		{`a\ \\  `, "", `a\ \\`},
		{`a\\ \ `, "", `a\\ \ `},
		{`\a `, "", `\a`},
		{" a", "", " a"},
		{"  a b  ", "", "  a b"},
		{" #a", "", " #a"},
		{" !a", "", " !a"},
		{" /", "d", " "},
		{"a /", "d", "a "},
		{"a/ ", "d", "a"},
		{"a/   ", "d", "a"},
		{`a/\ `, "f", `a/\ `},
		{"/ a ", "f", " a"},
		{"! a ", "!", " a"},
		{`!\ `, "!", `\ `},
		{"a\t", "", "a\t"},
		{"a \t", "", "a \t"},
		{"a\t ", "", "a\t"},
		{"a\xa0", "", "a\xa0"},
		{"a\u00a0", "", "a\u00a0"},
		{"\t", "", "\t"},
	}.check(t)
	checkNoRule(t, "", " ", "      ", "! ", "!    ", "/ ", "#  ", `a\/ `, `a\`)
}

// G1: `#` and `!`.
func TestSigns(t *testing.T) {
	lineRules{
		{`\#a`, "", `\#a`},
		{"a#", "", "a#"},
		{"a #b", "", "a #b"},
		{"!#", "!", "#"},
		{"!#a", "!", "#a"},
		{"/#a", "f", "#a"},
		{"!/#a", "!f", "#a"},
		{"!a", "!", "a"},
		{"!!", "!", "!"},
		{"!!a", "!", "!a"},
		{"!!!a", "!", "!!a"},
		{`\!a`, "", `\!a`},
		{"a!", "", "a!"},
		{"/!a", "f", "!a"},
		{"! !", "!", " !"},
	}.check(t)
	checkNoRule(t, "#", "##", "#a", "# a", "#!a", "#a/b/", `#\`, "!")
}

// G1: `/` at the end, at the beginning and in between.
func TestSlashes(t *testing.T) {
	lineRules{
		{"a", "", "a"},
		{"a/", "d", "a"},
		{"/a", "f", "a"},
		{"/a/", "df", "a"},
		{"a/b", "f", "a/b"},
		{"a/b/", "df", "a/b"},
		{"/a/b", "f", "a/b"},
		{"/a/b/", "df", "a/b"},
		{"a/b/c", "f", "a/b/c"},
		{"a//", "df", "a/"},
		{"a///", "df", "a//"},
		{"//a", "f", "/a"},
		{"///a", "f", "//a"},
		{"//a//", "df", "/a/"},
		{"a//b", "f", "a//b"},
		{"///", "df", "/"},
		{"////", "df", "//"},
		{"!a/", "!d", "a"},
		{"!/a", "!f", "a"},
		{"!/a/", "!df", "a"},
		{"!a/b", "!f", "a/b"},
		{"!///", "!df", "/"},
		{"**", "", "**"},
		{"**/", "d", "**"},
		{"/**", "f", "**"},
		{"/**/", "df", "**"},
		{"**/a", "f", "**/a"},
		{"a/**", "f", "a/**"},
		{"a/**/", "df", "a/**"},
		{"a/**/b", "f", "a/**/b"},
		{"[a/b]", "f", "[a/b]"},
		{"./a", "f", "./a"},
		{"../a", "f", "../a"},
	}.check(t)
	checkNoRule(t, "/", "//", "!/", "!//", "/ ", "// ")
}

// G1: patterns that glob.Parse does not take, as a whole and in one part.
func TestPatterns(t *testing.T) {
	long, longest := strings.Repeat("x", 200), strings.Repeat("x", 201)
	lineRules{
		{"[", "", "["},
		{"[a", "", "[a"},
		{"[]", "", "[]"},
		{"[b-a]", "", "[b-a]"},
		{"[[:alpha:]]", "", "[[:alpha:]]"},
		{`\\`, "", `\\`},
		{"\xff*", "", "\xff*"},
		{"[[:nope:]", "", "[[:nope:]"},
		// No part has the bracket, though the whole has it.
		{"[[:nope:]/]", "f", "[[:nope:]/]"},
		{"[/[:nope:]]", "f", "[/[:nope:]]"},
		{long, "", long},
		{"!/" + long + "/ ", "!df", long},
		// The whole is too long, but no part.
		{long + "/" + long, "f", long + "/" + long},
		{strings.Repeat("a/", 150) + "b", "f", strings.Repeat("a/", 150) + "b"},
	}.check(t)
	checkNoRule(t,
		"[[:nope:]]", "a[[:nope:]]", "![[:nope:]]", "[[:nope:]]/", "/[[:nope:]]", "[[:alpha:][:nope:]]",
		"[[:nope:]]/a", "a/[[:nope:]]", "a/[[:nope:]]/b", "a//[[:nope:]]", "**/[[:nope:]]", "!a/b[[:nope:]]/",
		`\`, `a\`, `a\\\`, `!\`, `/\`, `\/`, `a\/`, `\/a`, `a\/b`, `a/b\`, `a\//b`, `**/\`,
		longest, "!"+longest, "/"+longest, longest+"/", longest+"/a", "a/"+longest, "a/"+longest+"/b", "**/"+longest,
	)
}

// G1: a list that is answered is new memory.
func TestReadIsNew(t *testing.T) {
	one, other := ignore.Read("a\nb\n"), ignore.Read("a\nb\n")
	one[0].Pattern = "x"
	one = append(one[:1], rule("", "y"))
	if !slices.Equal(other, []api.Rule{rule("", "a"), rule("", "b")}) || len(one) != 2 {
		t.Errorf("another answer has become %v", other)
	}
}

// G1: long texts.
func TestReadLong(t *testing.T) {
	if got := len(ignore.Read(strings.Repeat("a\n#\n", 20000))); got != 20000 {
		t.Errorf("%d rules, want 20000", got)
	}
	blanks := strings.Repeat(" ", 1<<20)
	checkRead(t, "a"+blanks, rule("", "a"))
	checkRead(t, `a\`+blanks, rule("", `a\ `))
	checkRead(t, strings.Repeat(`\`, 1<<20)+" ")
	checkRead(t, strings.Repeat("/", 1<<20)+"a", rule("f", strings.Repeat("/", 1<<20-1)+"a"))
}
