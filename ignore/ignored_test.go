package ignore_test

import (
	"math"
	"slices"
	"strings"
	"testing"

	"sieve/api"
	"sieve/ignore"
	"sieve/tree"
)

// load makes nodes of lines in which a blank stands for each byte 9.
func load(t *testing.T, lines ...string) []api.Node {
	t.Helper()
	text := ""
	for _, line := range lines {
		text += strings.ReplaceAll(line, " ", "\t") + "\n"
	}
	l, errno, place := tree.Load(text)
	if errno != api.OK {
		t.Fatalf("Load(%q) = %d %d", text, errno, place)
	}
	return l
}

// checkIgnored holds the paths of all nodes that are passed over, in the order of their numbers, against those that are wanted.
func checkIgnored(t *testing.T, l []api.Node, want string) {
	t.Helper()
	var got []string
	for k := range l {
		if ignore.Ignored(l, k) {
			got = append(got, tree.Way(l, k))
		}
	}
	if !slices.Equal(got, strings.Fields(want)) {
		t.Errorf("passed over are %q, want %q, of\n%s", got, want, tree.Print(l))
	}
}

// G3: one file.
func TestIgnoredByOne(t *testing.T) {
	for _, c := range []struct{ content, want string }{
		{`x`, ""},
		{`b`, "b d/b"},
		{`/b`, "b"},
		{`d/b`, "d/b"},
		{`d`, "d d/b d/e d/e/c"},
		{`d/`, "d d/b d/e d/e/c"},
		{`b/`, ""},
		{`s/`, "s s/c"},
		{`s`, "s s/c"},
		{`l/`, ""},
		{`l`, "l"},
		{`c`, "d/e/c s/c"},
		{`**/c`, "d/e/c s/c"},
		{`d/**`, "d/b d/e d/e/c"},
		{`d/*/c`, "d/e/c"},
		{`/**/e`, "d/e d/e/c"},
		{`*`, ".ignore b d d/b d/e d/e/c s s/c l"},
		{`/*`, ".ignore b d d/b d/e d/e/c s s/c l"},
		{`*/`, "d d/b d/e d/e/c s s/c"},
		{`.*`, ".ignore"},
		{`.ignore`, ".ignore"},
		{`.ignore/`, ""},
		{`/`, ""},
		{`///`, ""},
		{`/**`, ".ignore b d d/b d/e d/e/c s s/c l"},
		{`#b`, ""},
		{`[[:nope:]]\nb`, "b d/b"},
		// The last rule that hits says it.
		{`b\n!b`, ""},
		{`!b\nb`, "b d/b"},
		{`b\n!b\nb`, "b d/b"},
		{`b\n!/b`, "d/b"},
		{`!/b\nb`, "b d/b"},
		{`b\n!x\n!y`, "b d/b"},
		{`b\n!b/`, "b d/b"},
		{`*\n!*/\n!c`, ".ignore b d/b l"},
		// What is in a directory that is passed over is passed over, whatever is said of it.
		{`d\n!c`, "d d/b d/e d/e/c"},
		{`d\n!d/b`, "d d/b d/e d/e/c"},
		{`d/*\n!d/e`, "d/b"},
		{`d/**\n!d/e`, "d/b d/e/c"},
		{`d\n!d`, ""},
		{`!d\n!b\n!*`, ""},
	} {
		l := load(t, "t .ignore 1 "+c.content, "f b 1 1", "d d", "f d/b 1 1", "d d/e", "f d/e/c 1 1", "x s", "f s/c 1 1", "l l d")
		checkIgnored(t, l, c.want)
	}
}

// G3: files in several directories: the nearest one that says anything says it.
func TestIgnoredBySeveral(t *testing.T) {
	for _, c := range []struct{ root, a, b, want string }{
		{`c`, `x`, `x`, "c a/c a/b/c"},
		{`x`, `c`, `x`, "a/c a/b/c"},
		{`x`, `x`, `c`, "a/b/c"},
		{`c`, `!c`, `x`, "c"},
		{`c`, `x`, `!c`, "c a/c"},
		{`c`, `!c`, `c`, "c a/b/c"},
		{`!c`, `c`, `!c`, "a/c"},
		{`c`, `c\n!c`, `c\n!c\nc`, "c a/b/c"},
		{`c`, `!c/`, `x`, "c a/c a/b/c"},
		{`c`, `!/c`, `x`, "c a/b/c"},
		{`c`, `!b/c`, `x`, "c a/c"},
		{`c`, `!a/b/c`, `x`, "c a/c a/b/c"},
		{`/c`, `/c`, `x`, "c a/c"},
		{`/c`, `x`, `/c`, "c a/b/c"},
		{`a/c`, `b/c`, `x`, "a/c a/b/c"},
		{`a/b/c`, `!c`, `x`, ""},
		{`**/b/c`, `x`, `x`, "a/b/c"},
		{`b`, `!b`, `x`, ""},
		{`b`, `x`, `!b\n!c\n!*`, "a/b a/b/.ignore a/b/c"},
		{`a`, `!b`, `!c`, "a a/.ignore a/c a/b a/b/.ignore a/b/c"},
		{`a/b/`, `!c`, `!c`, "a/b a/b/.ignore a/b/c"},
		{`x`, `b`, `!c`, "a/b a/b/.ignore a/b/c"},
		{`#`, ``, `\n\n`, ""},
		{`c`, ``, `#c`, "c a/c a/b/c"},
	} {
		file := func(way, content string) string { return "t " + way + " 1 " + content }
		l := load(t, file(".ignore", c.root), "f c 1 1", "d a", file("a/.ignore", c.a), "f a/c 1 1", "d a/b", file("a/b/.ignore", c.b), "f a/b/c 1 1")
		checkIgnored(t, l, c.want)
	}
}

// G3: a file says nothing of what is beside or above its directory.
func TestIgnoredBeside(t *testing.T) {
	checkIgnored(t, load(t, "d a", "d b", "f b/c 1 1", "f c 1 1", `t a/.ignore 1 *\n/c\n/b\nb/c`), "a/.ignore")
	checkIgnored(t, load(t, "d a", "d a/a", "t a/a/.ignore 1 a", "f a/a/a 1 1"), "a/a/a")
	checkIgnored(t, load(t, "d a", "t a/.ignore 1 a", "d a/a", "f a/a/b 1 1"), "a/a a/a/b")
}

// G3: what is no file called .ignore says nothing.
func TestIgnoredNoFile(t *testing.T) {
	checkIgnored(t, load(t), "")
	checkIgnored(t, load(t, "f b 1 1"), "")
	checkIgnored(t, load(t, "f b 1 1", "t ignore 1 b", "t .ignore2 1 b", "t .Ignore 1 b", "t x.ignore 1 b"), "")
	checkIgnored(t, load(t, "f b 1 1", "d .ignore", "t .ignore/.ignore 1 c", "f .ignore/b 1 1", "f .ignore/c 1 1"), ".ignore/c")
	checkIgnored(t, load(t, "f b 1 1", "x .ignore"), "")
	checkIgnored(t, load(t, "f b 1 1", "l .ignore b"), "")
	checkIgnored(t, load(t, "f b 1 1", "t rules 1 b", "l .ignore rules"), "")
	// With a size alone it has no rules.
	checkIgnored(t, load(t, "f b 1 1", "f .ignore 100 1"), "")
	// Above such a one another is asked.
	checkIgnored(t, load(t, "t .ignore 1 b", "d a", "d a/.ignore", "f a/b 1 1"), "a/b")
	checkIgnored(t, load(t, "t .ignore 1 b", "d a", "l a/.ignore nowhere", "f a/b 1 1"), "a/b")
	checkIgnored(t, load(t, "t .ignore 1 b", "d a", "f a/.ignore 5 1", "f a/b 1 1"), "a/b")
}

// G3: in a directory that cannot be read a file is asked too; a link is no directory, and leads nowhere.
func TestIgnoredKinds(t *testing.T) {
	checkIgnored(t, load(t, "x s", "t s/.ignore 1 b", "f s/b 1 1", "d s/d", "f s/d/b 1 1"), "s/b s/d/b")
	checkIgnored(t, load(t, "d a", "t a/.ignore 1 b", "l ln a", "l b a", "l a/b ..", "l a/c b"), "a/b")
	checkIgnored(t, load(t, "d a", "x b", "f c 1 1", "l d a", "t .ignore 1 [abcd]/"), "a b")
}

// G3: the root, and nodes that there are not.
func TestIgnoredNone(t *testing.T) {
	l := load(t, `t .ignore 1 *\n/**\n**\n///`, "f a 1 1")
	for k, want := range map[int]bool{0: false, 1: true, 2: true, 3: false, 4: false, -1: false, -2: false, 1000: false, math.MinInt: false, math.MaxInt: false} {
		if got := ignore.Ignored(l, k); got != want {
			t.Errorf("Ignored(l, %d) = %t, want %t", k, got, want)
		}
	}
	for _, k := range []int{0, 1, -1, math.MinInt, math.MaxInt} {
		if ignore.Ignored(nil, k) || ignore.Ignored([]api.Node{}, k) {
			t.Errorf("node %d of none is passed over", k)
		}
	}
}

// G3: what is handed in is not changed, and asking again answers the same.
func TestIgnoredChangesNothing(t *testing.T) {
	lines := []string{`t .ignore 1 *.c\n!x.c`, "d d", "f d/y.c 1 1", "f d/x.c 1 1"}
	l := load(t, lines...)
	checkIgnored(t, l, "d/y.c")
	checkIgnored(t, l, "d/y.c")
	if tree.Print(l) != tree.Print(load(t, lines...)) {
		t.Error("Ignored has changed the nodes")
	}
}

// G3: a tree that is as deep as it may be, with many rules.
func TestIgnoredDeep(t *testing.T) {
	lines, way := []string{"t .ignore 1 " + strings.Repeat(`x\n`, 100) + "/**/b"}, "a"
	for range 80 {
		lines = append(lines, "d "+way)
		way += "/a"
	}
	lines = append(lines, "f "+way[:len(way)-1]+"b 1 1")
	checkIgnored(t, load(t, lines...), way[:len(way)-1]+"b")
}

// Of nodes that Load did not answer nothing is promised; the call ends all the same.
func TestIgnoredOtherNodes(t *testing.T) {
	for _, l := range [][]api.Node{
		{{}},
		{{}, {}},
		{{Kind: 'd', Up: 0}, {Kind: 'd', Up: 1, Name: "a"}},
		{{Kind: 'd', Up: 1}, {Kind: 'd', Up: 0}},
		{{Kind: 'd', Up: 5, Kids: []int{-1, 9, 1}}, {Kind: 'f', Name: ".ignore", Up: 7, Text: "*"}, {Up: 0, Name: "/"}, {Up: -9}},
		{{Kind: 'f', Up: -1}, {Kind: 'f', Up: 0}, {Kind: 'l', Up: 1}},
	} {
		for k := -1; k <= len(l); k++ {
			ignore.Ignored(l, k)
		}
	}
}
