package walk_test

import (
	"strings"
	"testing"

	"sieve/api"
	"sieve/walk"
)

// J3: `-o`, `-a`, `!` and `,`, by what they say of one node: -print shows what is worked out, and in which order; with -print0 at the end what the whole says.
func TestSigns(t *testing.T) {
	for _, c := range []struct{ args, out string }{
		{"-true", "g0"},
		{"-false", ""},
		{"! -true", ""},
		{"! -false", "g0"},
		{"! ! -true", "g0"},
		{"! ! -false", ""},
		{"-true -o -true", "g0"},
		{"-true -o -false", "g0"},
		{"-false -o -true", "g0"},
		{"-false -o -false", ""},
		{"-true -a -true", "g0"},
		{"-true -a -false", ""},
		{"-false -a -true", ""},
		{"-false -a -false", ""},
		{"-true , -true", "g0"},
		{"-true , -false", ""},
		{"-false , -true", "g0"},
		{"-false , -false", ""},
		{"-print", "g g0"},
		{"-print -o -print", "g g0"},
		{"-print -a -print", "g g g0"},
		{"-print , -print", "g g g0"},
		{"! -print", "g"},
		{"! ! -print", "g g0"},
		{"! -print -o -print", "g g g0"},
		{"! -print -a -print", "g"},
		{"! -print , -print", "g g g0"},
		{"-true -o -print", "g0"},
		{"-false -o -print", "g g0"},
		{"-true -a -print", "g g0"},
		{"-false -a -print", ""},
		{"-true , -print", "g g0"},
		{"-false , -print", "g g0"},
		{"-print -o -false", "g g0"},
		{"-print -a -false", "g"},
		{"-print , -false", "g"},
		{"-print -false -o -print", "g g g0"},
		{"-print -print -print", "g g g g0"},
		{"-print -o -print -o -print", "g g0"},
		{"-false -o -false -o -print", "g g0"},
		{"-print , -print , -print", "g g g g0"},
		{"-false -a -print -o -print , -false -o -print -a -print", "g g g g0"},
		{"( -print , -false ) -o -print", "g g g0"},
		{"( -print -o -print ) -a -print", "g g g0"},
		{"! ( -print , -false ) -a -print", "g g g0"},
		{"-prune", "g0"},
		{"! -prune -o -print", "g g0"},
		{"-prune -a -print", "g g0"},
		{"-print0", "g0 g0"},
		{"! -print0", "g0"},
		{"-print0 -o -print", "g0 g0"},
		{"-print0 , -print", "g0 g g0"},
		{"-print -quit -print", "g"},
		{"-true -o -quit", "g0"},
		{"-false -a -quit , -true", "g0"},
		{"-quit -o -true", ""},
		{"! -quit", ""},
		{"-print , -quit , -print", "g"},
	} {
		l := load(t, "f g 1 1\n")
		asked{"g", "( " + c.args + " ) -print0", far(), c.out, ""}.check(t, l)
	}
}

// J3: what is behind a sign and is worked out, or left out, by what a node is.
func TestActionsInTests(t *testing.T) {
	checkAll(t, []asked{
		{"b", "-type f -o -print", far(), "b b/la", ""},
		{"b", "-type f -print", far(), "b/g", ""},
		{"b", "-type f , -print0", far(), "b0 b/g0 b/la0", ""},
		{"b", "! -type f -print0", far(), "b0 b/la0", ""},
		{"b", "! -print", far(), "b b/g b/la", ""},
		{"b", "-type f -print -o -type d -print0", far(), "b0 b/g", ""},
		{"b", "-print -print0", far(), "b b0 b/g b/g0 b/la b/la0", ""},
		{"a", "-type d -prune -o -print", far(), "", ""},
		{"a", "-type f -prune -o -print", far(), "a a/e a/ld a/lf a/ll a/ln a/lr a/lu a/s", "a/s: shut"},
		{"a b", "-name a -a -prune -a -false , -print", far(), "a b b/g b/la", ""},
		{"a b", "! ( -name a -prune ) -print", far(), "b b/g b/la", ""},
		{"a b", "-name b -o -prune", far(), "a b b/g b/la", ""},
		{"a b", "-true -o -prune", depths(0, 0), "a b", ""},
		{"b", "-true -o -prune", far(), "b b/g b/la", ""},
		{"b", "-false -prune , -print", far(), "b b/g b/la", ""},
		{"b", "-false , -prune , -print", far(), "b", ""},
		{"b", "-name g -a -quit -o -print", far(), "b", ""},
		{"b", "-name b -o -quit , -print", far(), "b", ""},
		{"b", "-name g -quit , -print", depthFirst(), "", ""},
		{"b", "-print , -name la -quit", depthFirst(), "b/g b/la", ""},
	})
}

// J3: primaries that ask, of nodes of each kind: all under `/`, and no further than two below.
func TestPrimaries(t *testing.T) {
	links := "/a/ld /a/lf /a/ll /a/ln /a/lr /a/lu"
	for args, out := range map[string]string{
		"-true": all, "-false": "",
		"-type d": "/ /a /a/e /a/s /b /s", "-type f": "/a/f /a/t /b/g", "-type l": links + " /b/la",
		"! -type d ! -type f": links + " /b/la",
		"-empty":              "/a/e /b/g /s",
		"! -empty":            "/ /a /a/f " + links + " /a/s /a/t /b /b/la",
		"-size 0":             "/b/g", "-size 0c": "/b/g", "-size -0": "", "-size +0": "/a/f /a/t",
		"-size 2": "/a/f", "-size 1k": "/a/f", "-size 1024c": "/a/f", "-size 1023c": "", "-size 1025c": "",
		"-size +1023c": "/a/f", "-size +1024c": "", "-size +1025c": "", "-size -1023c": "/a/t /b/g", "-size -1024c": "/a/t /b/g", "-size -1025c": "/a/f /a/t /b/g",
		"-size 5c": "/a/t", "-size -5c": "/b/g", "-size +5c": "/a/f", "-size -999999999G": "/a/f /a/t /b/g", "-size +999999999G": "",
		"! -size 0": strings.ReplaceAll(all, "/b/g ", ""),
		"-time 50":  "/a/f", "-time 49": "", "-time 51": "", "-time -50": "/b/g", "-time +50": "/a/t", "-time -51": "/a/f /b/g", "-time +49": "/a/f /a/t",
		"-time 0": "", "-time +0": "/a/f /a/t /b/g", "-time -0": "", "-time -999999999": "/a/f /a/t /b/g", "-time 9": "/b/g", "-time 60": "/a/t",
		"-name a": "/a", "-name /": "/", "-name ?": "/ /a /a/e /a/f /a/s /a/t /b /b/g /s", "-name *": all, "-name l[du]": "/a/ld /a/lu",
		"-name a/e": "", "-name */e": "", "-name A": "", "-name \\a": "/a", "-name [!a-t]": "/", "-name ??": links + " /b/la",
		"-iname A": "/a", "-iname L?": links + " /b/la", "-iname /": "/", "-iname [A-E]": "/a /a/e /b", "-iname [[:upper:]]": "", "-iname a/E": "",
		"-path /": "/", "-path /a": "/a", "-path a": "", "-path *a": "/a /b/la", "-path /a/*": "/a/e /a/f " + links + " /a/s /a/t", "-path /*/g": "/b/g", "-path *": all,
		"-path /b*": "/b /b/g /b/la", "-path /B": "", "-path /?": "/a /b /s", "-path ???b": "", "-path ?[!a]": "/b /s",
		"-regex /": "/", "-regex .*": all, "-regex .": "/", "-regex /(a|b)": "/a /b", "-regex a": "", "-regex .*/l[ad]": "/a/ld /b/la", "-regex /a/l?[fd]": "/a/f /a/ld /a/lf", "-regex /A": "", "-regex /b/.": "/b/g",
		"-ignored": "", "! -ignored": all,
	} {
		notes := allShut
		asked{"", args, far(), out, notes}.check(t, load(t, forest))
	}
}

// J3: primaries that ask of a link, ask of the node that is meant.
func TestPrimariesFollow(t *testing.T) {
	checkAll(t, []asked{
		{"a/ld", "-type d", depths(0, 0), "", ""},
		{"a/lf a/ll", "-size 1k", following(), "a/lf a/ll", ""},
		{"a/lf a/ll", "-size 1k", far(), "", ""},
		{"a/lf a/ll", "-time 50 -type f", following(), "a/lf a/ll", ""},
		{"a", "-empty -o -size 1k", following(), "a/e a/f a/ld/g a/lf a/ll a/lr/b/g a/lr/s", "a/ld/la: loop;a/lr/a: loop;a/lr/b/la: loop;a/lr/s: shut;a/lu: loop;a/s: shut"},
		{"a/lf", "-name f", following(), "", ""},
		{"a/lf", "-name lf -path a/lf -regex a/lf", following(), "a/lf", ""},
	})
}

// J3: the name and the path are those by which a node is gone to.
func TestPathsOfStarts(t *testing.T) {
	checkAll(t, []asked{
		{"a/e a/e/ ./a/e a/./e/. a/e/..", "-name e", depths(0, 0), "a/e a/e/ ./a/e", ""},
		{"a/./e/. a/e/.. . ..", "-name .*", depths(0, 0), "a/./e/. a/e/.. . ..", ""},
		{"/ // .", "-name /", depths(0, 0), "/ //", ""},
		{"b/ b", "-path b/g", far(), "b/g b/g", ""},
		{"b// b /b", "-path b//g", far(), "b//g", ""},
		{"b /b ./b", "-path b*", far(), "b b/g b/la", ""},
		{"b /b ./b", "-path *b/g", far(), "b/g /b/g ./b/g", ""},
		{"b /b ./b", "-regex b/g", far(), "b/g", ""},
		{"b /b ./b", "-regex ./b/.", far(), "./b/g", ""},
		{"b /b ./b", "-regex .*b", far(), "b /b ./b", ""},
	})
	l := load(t, "f a 1 1\n")
	r, errno := walk.Walk(l, []string{"a\n/../a"}, parse(t, "-regex .*"), far())
	checkResult(t, "a start with a byte 10", r, errno, "", "a\n/../a: 6")
}

// J3: neither way nor dot, so that wild signs mean a `.` at the beginning, and a `/`.
func TestNamesWithDots(t *testing.T) {
	l := load(t, "d .a\nf .a/.b.c 1 1\nf .c 1 1\nf c 1 1\n")
	for args, out := range map[string]string{
		"-name *":    "/ /.a /.a/.b.c /.c /c",
		"-name *.c":  "/.a/.b.c /.c",
		"-name *c":   "/.a/.b.c /.c /c",
		"-name ?c":   "/.c",
		"-name [.]c": "/.c",
		"-iname *.C": "/.a/.b.c /.c",
		"-path *c":   "/.a/.b.c /.c /c",
		"-path ?.c":  "/.c",
		"-path *?.c": "/.a/.b.c /.c",
		"-path *b.c": "/.a/.b.c",
	} {
		asked{"", args, far(), out, ""}.check(t, l)
	}
}

// J3: -iname, with letters of both kinds in the pattern and in the name, and with bytes that are none of A to Z.
func TestSmallLetters(t *testing.T) {
	l := load(t, "f AbZ 1 1\nf @[`{ 1 1\nf \xc3\x84 1 1\nf \xc3\xa4 1 1\nf K\xe2\x84\xaa 1 1\nf \xc1\xe1\xff 1 1\nf x] 1 1\nf \\ 1 1\n")
	for args, out := range map[string]string{
		"-iname abz": "/AbZ", "-iname ABZ": "/AbZ", "-iname aBz": "/AbZ", "-iname AbZ": "/AbZ", "-iname AbY": "",
		"-iname a?z": "/AbZ", "-iname *BZ": "/AbZ", "-iname [X-Z]*": "/x]", "-iname [A]*": "/AbZ", "-iname [!A-Z]*": "/ /@[`{ /\\ /\xc1\xe1\xff /\xc3\x84 /\xc3\xa4",
		"-iname \\AB\\Z": "/AbZ", "-iname @\\[`{": "/@[`{", "-iname `\\{@[": "", "-iname @\\[@[": "", "-iname `\\{`{": "", "-iname `\\[`{": "", "-iname @{`{": "", "-iname @\\[@{": "",
		"-iname \xc3\x84": "/\xc3\x84", "-iname \xc3\xa4": "/\xc3\xa4", "-iname k\xe2\x84\xaa": "/K\xe2\x84\xaa", "-iname kk": "",
		"-iname \xe1\xe1\xff": "", "-iname \xc1\xe1\xff": "/\xc1\xe1\xff", "-iname \\\\": "/\\",
		// The letters are taken so in the pattern as it is written: there is no class x, so nothing is meant.
		"-iname [[:X:]]": "", "-name [[:X:]]": "", "-name [[:X:x]]": "/x]", "-iname [[:X:x]]": "/x]",
		"-iname [[:ALPHA:]]*": "/AbZ /K\xe2\x84\xaa /x]",
		"-name AbZ":           "/AbZ", "-name abz": "", "-name ABZ": "",
	} {
		asked{"", args, far(), out, ""}.check(t, l)
	}
}

// J3: -ignored is asked of the node, whatever path led to it.
func TestIgnored(t *testing.T) {
	l := load(t, "t .ignore 1 *.c\\n!x.c\\nsub/\nd a\nf a/x.c 1 1\nf a/y.c 1 1\nd sub\nf sub/f 1 1\nl a/ls ../sub\nl ly.c a/x.c\nl lx a/y.c\n")
	asked{"", "-ignored", far(), "/a/y.c /ly.c /sub /sub/f", ""}.check(t, l)
	asked{"", "-ignored", following(), "/a/ls /a/ls/f /a/y.c /lx /sub /sub/f", ""}.check(t, l)
	asked{"sub/f a/x.c a/../a/y.c /", "-ignored", depths(0, 0), "sub/f a/../a/y.c", ""}.check(t, l)
	asked{"", "-ignored -prune", far(), "/a/y.c /ly.c /sub", ""}.check(t, l)
	asked{"", "! -ignored -o -prune -false", far(), "/ /.ignore /a /a/ls /a/x.c /lx", ""}.check(t, l)
	asked{"a a", "-ignored -o ! -ignored -type d", far(), "a a/y.c a a/y.c", ""}.check(t, l)
}

// J4: where nothing in the Test acts, what it is true of is told; where something acts, be it left out always, only that is told.
func TestToldByItself(t *testing.T) {
	checkAll(t, []asked{
		{"b", "", far(), "b b/g b/la", ""},
		{"b", "-prune", far(), "b", ""},
		{"b", "-name g , -type d", far(), "b", ""},
		{"b", "-false -print", far(), "", ""},
		{"b", "-false -a -print0", far(), "", ""},
		{"b", "-true -o -quit", far(), "", ""},
		{"b", "-true -o -print", far(), "", ""},
		{"b", "-name g -o -false -quit", far(), "", ""},
		{"b", "-name -print", far(), "", ""},
		{"b", "! -name -quit", far(), "b b/g b/la", ""},
	})
}

// J4: the Result as it is, byte by byte.
func TestResult(t *testing.T) {
	l := load(t, forest)
	for _, c := range []struct {
		starts []string
		args   string
		want   api.Result
	}{
		{[]string{"b"}, "", api.Result{Out: "b\nb/g\nb/la\n"}},
		{[]string{"b"}, "-print0", api.Result{Out: "b\x00b/g\x00b/la\x00"}},
		{[]string{"b"}, "-print -name g -print0", api.Result{Out: "b\nb/g\nb/g\x00b/la\n"}},
		{[]string{"b"}, "-false", api.Result{}},
		{[]string{"s"}, "", api.Result{Out: "s\n", Notes: []string{"s: shut"}, Status: 1}},
		{[]string{"no", "s"}, "-false", api.Result{Notes: []string{"no: 6", "s: shut"}, Status: 1}},
	} {
		r, errno := walk.Walk(l, c.starts, parse(t, c.args), far())
		if errno != api.OK || r.Out != c.want.Out || strings.Join(r.Notes, "|") != strings.Join(c.want.Notes, "|") || r.Status != c.want.Status {
			t.Errorf("%q %s: %+v, error %d", c.starts, c.args, r, errno)
		}
	}
}
