package walk_test

import (
	"math"
	"reflect"
	"slices"
	"strings"
	"testing"

	"sieve/api"
	"sieve/expr"
	"sieve/tree"
	"sieve/walk"
)

// forest has each kind of node, and links of each kind.
const forest = `d a
d a/e
f a/f 1024 50
l a/ld /b
l a/lf f
l a/ll lf
l a/ln no
l a/lr /
l a/lu .
x a/s
f a/s/in 0 0
t a/t 60 hello
d b
f b/g 0 9
l b/la /a
x s
`

// load makes nodes of lines in which a blank stands for each byte 9.
func load(t *testing.T, lines string) []api.Node {
	t.Helper()
	l, errno, place := tree.Load(strings.ReplaceAll(lines, " ", "\t"))
	if errno != api.OK {
		t.Fatalf("Load(%q) = %d %d", lines, errno, place)
	}
	return l
}

func parse(t *testing.T, args string) api.Test {
	t.Helper()
	test, errno, number := expr.Parse(strings.Fields(args))
	if errno != api.OK {
		t.Fatalf("Parse(%q) = %d %d", args, errno, number)
	}
	return test
}

// far lets a walk go wherever it likes.
func far() api.Options { return api.Options{Max: 1000, Most: 10000} }

func following() api.Options {
	o := far()
	o.Follow = true
	return o
}

func depthFirst() api.Options {
	o := far()
	o.Depth = true
	return o
}

func depths(low, high int) api.Options {
	o := far()
	o.Min, o.Max = low, high
	return o
}

func most(n int) api.Options {
	o := far()
	o.Most = n
	return o
}

// shown is Out with a blank for each byte 10 and `0 ` for each byte 0, and nothing behind the last one.
func shown(out string) string {
	return strings.TrimSuffix(strings.NewReplacer("\n", " ", "\x00", "0 ").Replace(out), " ")
}

// asked is a walk, with blanks between starts (none: `/`) and between arguments, and what it is to bring: what is shown of Out, and the Notes with a `;` between them.
type asked struct {
	starts, args string
	o            api.Options
	out, notes   string
}

func (c asked) check(t *testing.T, l []api.Node) {
	t.Helper()
	starts := strings.Fields(c.starts)
	if len(starts) == 0 {
		starts = []string{"/"}
	}
	r, errno := walk.Walk(l, starts, parse(t, c.args), c.o)
	checkResult(t, c, r, errno, c.out, c.notes)
}

func checkResult(t *testing.T, about any, r api.Result, errno api.Errno, out, notes string) {
	t.Helper()
	status := 0
	if notes != "" {
		status = 1
	}
	if got := strings.Join(r.Notes, ";"); errno != api.OK || shown(r.Out) != out || got != notes || r.Status != status {
		t.Errorf("%v:\ngot  %q %q %d, error %d\nwant %q %q", about, shown(r.Out), got, r.Status, errno, out, notes)
	}
}

func checkFault(t *testing.T, l []api.Node, starts []string, args string, o api.Options, want api.Errno) {
	t.Helper()
	r, errno := walk.Walk(l, starts, parse(t, args), o)
	if errno != want || r.Out != "" || len(r.Notes) > 0 || r.Status != 0 {
		t.Errorf("%.60q %s %v: %.60v, error %d, want %d", starts, args, o, r, errno, want)
	}
}

func checkAll(t *testing.T, cases []asked) {
	t.Helper()
	l := load(t, forest)
	for _, c := range cases {
		c.check(t, l)
	}
}

// J1: numbers out of their bounds, each by itself and all together, and whatever else is asked.
func TestRange(t *testing.T) {
	l := load(t, forest)
	for _, o := range []api.Options{
		{Min: -1, Max: 1, Most: 1}, {Max: -1, Most: 1}, {Max: 1, Most: -1}, {Max: 1, Most: 100001}, {Min: -1, Max: -1, Most: -1},
		{Min: math.MinInt, Max: 1, Most: 1}, {Max: math.MinInt, Most: 1}, {Max: 1, Most: math.MinInt}, {Max: 1, Most: math.MaxInt},
		{Min: 1, Max: -1}, {Max: 1000, Most: 100001, Follow: true, Depth: true}, {Min: math.MaxInt, Max: math.MaxInt, Most: 100001},
	} {
		for _, starts := range [][]string{nil, {"/"}, {"no"}, {"a", "no", ""}} {
			checkFault(t, l, starts, "", o, api.ErrRange)
			checkFault(t, l, starts, "-quit", o, api.ErrRange)
		}
	}
	for _, o := range []api.Options{{}, {Max: 1}, {Most: 100000}, {Min: math.MaxInt, Max: math.MaxInt, Most: 100000}, {Min: 5, Max: 2, Most: 1}} {
		r, errno := walk.Walk(l, nil, parse(t, ""), o)
		checkResult(t, o, r, errno, "", "")
		r, errno = walk.Walk(l, []string{"no"}, parse(t, ""), o)
		checkResult(t, o, r, errno, "", "no: 6")
	}
}

// J1: starts of each kind, in their order, each with itself as its path.
func TestStarts(t *testing.T) {
	checkAll(t, []asked{
		{"", "", depths(0, 0), "/", ""},
		{"a/f", "", far(), "a/f", ""},
		{"/a/f", "", far(), "/a/f", ""},
		{"a/f b/g a/t", "", far(), "a/f b/g a/t", ""},
		{"b/g a/f", "", far(), "b/g a/f", ""},
		{"a/f a/f a/f", "", far(), "a/f a/f a/f", ""},
		{"b b", "", far(), "b b/g b/la b b/g b/la", ""},
		{"b /b ./b b/ //b", "-type f", far(), "b/g /b/g ./b/g b/g //b/g", ""},
		{"b// a/../b b/.", "-type f", far(), "b//g a/../b/g b/./g", ""},
		{". ..", "", depths(0, 1), ". ./a ./b ./s .. ../a ../b ../s", ""},
		{"// ///", "", depths(0, 1), "// //a //b //s /// ///a ///b ///s", ""},
		{"a/e", "", far(), "a/e", ""},
		{"no", "", far(), "", "no: 6"},
		{"no a/f", "", far(), "a/f", "no: 6"},
		{"a/f no b/g a/no", "", far(), "a/f b/g", "no: 6;a/no: 6"},
		{"a/f/", "", far(), "", "a/f/: 7"},
		{"a/f/x a/f/.", "", far(), "", "a/f/x: 7;a/f/.: 7"},
		{"no no", "-false", far(), "", "no: 6;no: 6"},
		{"s/no a/s/in", "", far(), "a/s/in", "s/no: 6"},
		{"a/s s", "", far(), "a/s s", "a/s: shut;s: shut"},
	})
}

// J1: starts that are links, or lead through some.
func TestLinkStarts(t *testing.T) {
	checkAll(t, []asked{
		{"a/ld", "", far(), "a/ld", ""},
		{"a/ld", "", following(), "a/ld a/ld/g a/ld/la a/ld/la/e a/ld/la/f a/ld/la/ld a/ld/la/lf a/ld/la/ll a/ld/la/ln a/ld/la/lr a/ld/la/lr/a a/ld/la/lr/b a/ld/la/lr/s a/ld/la/lu a/ld/la/s a/ld/la/t",
			"a/ld/la/ld: loop;a/ld/la/lr/a: loop;a/ld/la/lr/b: loop;a/ld/la/lr/s: shut;a/ld/la/lu: loop;a/ld/la/s: shut"},
		{"a/ld/", "", far(), "a/ld/ a/ld/g a/ld/la", ""},
		{"a/ld/g", "", far(), "a/ld/g", ""},
		{"a/lf", "-type l", far(), "a/lf", ""},
		{"a/lf", "-type f", following(), "a/lf", ""},
		{"a/ll", "-type l", far(), "a/ll", ""},
		{"a/ll", "-type f", following(), "a/ll", ""},
		{"a/lf/", "", far(), "", "a/lf/: 7"},
		{"a/ln", "", far(), "a/ln", ""},
		{"a/ln", "", following(), "", "a/ln: 6"},
		{"a/ln/", "", far(), "", "a/ln/: 6"},
	})
	rings := load(t, "l me me\nl to fro\nl fro to\n")
	for _, c := range []asked{
		{"me to", "", far(), "me to", ""},
		{"me to", "", following(), "", "me: 9;to: 9"},
		{"me/x fro/", "", far(), "", "me/x: 9;fro/: 9"},
		{"/", "", following(), "/ /fro /me /to", ""},
	} {
		c.check(t, rings)
	}
}

// J1: starts that a row of words cannot tell.
func TestOddStarts(t *testing.T) {
	l := load(t, forest)
	for _, c := range []struct {
		starts     []string
		out, notes string
	}{
		{nil, "", ""},
		{[]string{}, "", ""},
		{[]string{""}, "", ": 6"},
		{[]string{"", "b/g", ""}, "b/g", ": 6;: 6"},
		{[]string{"b \n", "\x00", "\xff"}, "", "b \n: 6;\x00: 6;\xff: 6"},
		{[]string{strings.Repeat("/", 100000) + "b/g"}, strings.Repeat("/", 100000) + "b/g", ""},
		{[]string{strings.Repeat("a/../", 20000) + "b/no"}, "", strings.Repeat("a/../", 20000) + "b/no: 6"},
	} {
		r, errno := walk.Walk(l, c.starts, parse(t, ""), far())
		checkResult(t, c.starts, r, errno, c.out, c.notes)
	}
}

// What holds everywhere: what is handed in is not changed, what is answered is new, and asking again answers the same.
func TestChangesNothing(t *testing.T) {
	l, starts, test := load(t, forest), []string{"b", "no", "a"}, parse(t, "-name ? -o ( -iname L* -prune , ! -ignored )")
	first, _ := walk.Walk(l, starts, test, following())
	again, _ := walk.Walk(l, starts, test, following())
	if !reflect.DeepEqual(first, again) || len(first.Notes) < 2 {
		t.Errorf("%v, and then %v", first, again)
	}
	if !reflect.DeepEqual(l, load(t, forest)) || !slices.Equal(starts, []string{"b", "no", "a"}) || !reflect.DeepEqual(test, parse(t, "-name ? -o ( -iname L* -prune , ! -ignored )")) {
		t.Error("Walk has changed what it was given")
	}
	first.Notes[0] = "x"
	if again.Notes[0] == "x" {
		t.Error("two answers share their Notes")
	}
}

// Of nodes that Load did not answer and Tests that Parse did not answer nothing is promised; the call ends all the same.
func TestOtherInputs(t *testing.T) {
	lists := [][]api.Node{
		nil, {}, {{}}, {{Kind: 'd'}}, {{Kind: 'd', Kids: []int{0, -1, 1, math.MaxInt, math.MinInt}}}, {{Kind: 'l', Text: "/"}}, {{Kind: 'x', Kids: []int{0}}},
		{{Kind: 'd', Kids: []int{1, 2}}, {Kind: 'd', Up: 7, Kids: []int{0, 2}}, {Kind: 'l', Up: -5, Text: "a"}},
		{{Kind: 'd', Kids: []int{1, 1}}, {Kind: 'l', Name: "a", Text: "a"}},
	}
	tests := []api.Test{
		{}, {Op: "!"}, {Op: "-a"}, {Op: "-o"}, {Op: ","}, {Op: "-name"}, {Op: "-name", Text: `\`}, {Op: "-regex", Text: "("}, {Op: "-path", Text: "[[:no:]]"},
		{Op: "-type"}, {Op: "-size", Sign: 7}, {Op: "-no", Text: "x"}, {Op: "-ignored"}, {Op: "!", Kids: []api.Test{{}, {Op: "-print"}, {Op: "-empty"}}},
		{Op: ",", Kids: []api.Test{{Op: "-print"}, {Op: "-prune"}, {Op: "-print0"}}},
	}
	for _, l := range lists {
		for _, test := range tests {
			for _, o := range []api.Options{far(), following(), depthFirst()} {
				walk.Walk(l, []string{"/", "a", "."}, test, o)
			}
		}
	}
	r, errno := walk.Walk(load(t, forest), []string{"a/f"}, api.Test{}, far())
	checkResult(t, "a Test without an Op", r, errno, "", "")
}
