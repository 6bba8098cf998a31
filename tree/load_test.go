package tree_test

import (
	"fmt"
	"reflect"
	"slices"
	"strings"
	"testing"

	"sieve/api"
	"sieve/tree"
)

// load answers the nodes of a text that must be one of a tree.
func load(t testing.TB, text string) []api.Node {
	t.Helper()
	l, e, place := tree.Load(text)
	if e != api.OK || place != 0 {
		t.Fatalf("Load(%q) = error %d at %d", text, e, place)
	}
	return l
}

// sameNodes does not ask whether an empty list is nil: that is not said.
func sameNodes(a, b []api.Node) bool {
	return slices.EqualFunc(a, b, func(x, y api.Node) bool {
		same := slices.Equal(x.Kids, y.Kids)
		x.Kids, y.Kids = nil, nil
		return same && reflect.DeepEqual(x, y)
	})
}

// lines makes a text of n lines, of directories that lie side by side.
func lines(n int) string {
	var b strings.Builder
	for i := range n {
		fmt.Fprintf(&b, "d\tn%d\n", i)
	}
	return b.String()
}

func wantError(t *testing.T, text string, want api.Errno, wantPlace int) {
	t.Helper()
	l, e, place := tree.Load(text)
	if e != want || place != wantPlace {
		t.Errorf("Load(%.80q) = error %d at %d, want %d at %d", text, e, place, want, wantPlace)
	}
	if (want != api.OK) != (l == nil) {
		t.Errorf("Load(%.80q) = %d nodes beside error %d", text, len(l), e)
	}
}

// B1: each sign, and all fields of a node.
func TestLoadNodes(t *testing.T) {
	text := "d\tb\n" +
		"x\tshut\n" +
		"f\tb/file\t5\t7\n" +
		"t\tb/told\t12\tabc\n" +
		"l\tb/ln\t../shut\n" +
		"d\ta\n" +
		"f\tshut/in\t000000000\t999999999\n" +
		"t\tshut/no\t0\t\n" +
		"d\tb/d\n" +
		"f\tb/d/deep\t1\t2\n"
	want := []api.Node{
		{Kind: 'd', Up: -1, Kids: []int{6, 1, 2}},
		{Kind: 'd', Name: "b", Up: 0, Kids: []int{9, 3, 5, 4}},
		{Kind: 'x', Name: "shut", Up: 0, Kids: []int{7, 8}},
		{Kind: 'f', Name: "file", Up: 1, Size: 5, Time: 7},
		{Kind: 'f', Name: "told", Up: 1, Size: 3, Time: 12, Text: "abc"},
		{Kind: 'l', Name: "ln", Up: 1, Text: "../shut"},
		{Kind: 'd', Name: "a", Up: 0},
		{Kind: 'f', Name: "in", Up: 2, Size: 0, Time: 999999999},
		{Kind: 'f', Name: "no", Up: 2},
		{Kind: 'd', Name: "d", Up: 1, Kids: []int{10}},
		{Kind: 'f', Name: "deep", Up: 9, Size: 1, Time: 2},
	}
	if got := load(t, text); !sameNodes(got, want) {
		t.Errorf("Load = %v, want %v", got, want)
	}
}

// B1: a text without a line.
func TestLoadNothing(t *testing.T) {
	want := []api.Node{{Kind: 'd', Up: -1}}
	if got := load(t, ""); !sameNodes(got, want) {
		t.Errorf("Load of nothing = %v, want %v", got, want)
	}
}

// B1: names rise byte by byte, whatever the order of the lines.
func TestLoadKidsRise(t *testing.T) {
	names := []string{"b", "\xff", "ab", "B", "a", "a\x01", "ä", "-", "a.b", "~", "...", ".a", "10", "9", "\xc3", "a b"}
	text := ""
	for _, n := range names {
		text += "d\t" + n + "\n"
	}
	l := load(t, text)
	var got []string
	for _, k := range l[0].Kids {
		got = append(got, l[k].Name)
	}
	want := []string{"-", "...", ".a", "10", "9", "B", "a", "a\x01", "a b", "a.b", "ab", "b", "~", "\xc3", "ä", "\xff"}
	if !slices.Equal(got, want) {
		t.Errorf("Kids by name = %q, want %q", got, want)
	}
}

// B1, ErrText: lines without the form.
func TestLoadForm(t *testing.T) {
	name60 := strings.Repeat("n", 60)
	for _, line := range []string{
		"", "\t", "d", "d\t", "d\t\t", "\ta", "da", "d a", " d\ta", "d \ta", "D\ta", "dd\ta", "q\ta", "\x00\ta", "-\ta", "dx\ta",
		"d\ta\t", "d\ta\tb", "x\ta\t", "x", "x\t", "d\t\ta",
		"d\t/", "d\t/a", "d\ta/", "d\ta//b", "d\t//", "d\t.", "d\t..", "d\t./a", "d\ta/.", "d\ta/..", "d\t../a", "d\ta/./b",
		"d\ta\x00", "d\t\x00", "d\t" + name60 + "n", "d\t" + name60 + "/" + name60 + "n", "d\t" + name60 + "n/a",
		"f\ta", "f\ta\t1", "f\ta\t1\t2\t", "f\ta\t1\t2\t3", "f\ta\t\t2", "f\ta\t1\t", "f\ta\t\t", "f\ta\t1\t\t2",
		"f\ta\t1234567890\t2", "f\ta\t1\t1234567890", "f\ta\t0000000001\t2", "f\ta\t1\t0000000000",
		"f\ta\t-1\t2", "f\ta\t1\t+2", "f\ta\t1k\t2", "f\ta\t1\t2 ", "f\ta\t 1\t2", "f\ta\t1\t0x2", "f\ta\t1\tx", "f\ta\tx\t2", "f\ta\t1\t١",
		"t\ta", "t\ta\t1", "t\ta\t\tx", "t\ta\tx\tx", "t\ta\t1234567890\tx", "t\ta\t1\tx\t", "t\ta\t1\tx\ty", "t\ta\t1\t\t",
		"t\ta\t1\t\\", "t\ta\t1\tx\\", "t\ta\t1\t\\x", "t\ta\t1\t\\T", "t\ta\t1\t\\N", "t\ta\t1\t\\1", "t\ta\t1\t\\\\\\", "t\ta\t1\t\\ ", "t\ta\t1\t\\\x00", "t\ta\t1\ta\x00b",
		"l\ta", "l\ta\t", "l\ta\tb\t", "l\ta\tb\tc", "l\ta\t\tb", "l\ta\t\\", "l\ta\tb\\q", "l\ta\t\x00", "l\ta\t\\0\x00",
		"l\t/a\tb", "t\ta/\t1\tx", "f\t.\t1\t2",
	} {
		wantError(t, line+"\n", api.ErrText, 0)
		wantError(t, "d\tok\n"+line+"\n", api.ErrText, 5)
		wantError(t, "d\tok\n"+line+"\nd\tok\n", api.ErrText, 5)
	}
}

// B1, ErrText: a line without a byte 10 behind it.
func TestLoadEnd(t *testing.T) {
	wantError(t, "d\ta", api.ErrText, 0)
	wantError(t, "d\ta\nd\tb", api.ErrText, 4)
	wantError(t, "d\ta\nd\ta", api.ErrText, 4)
	wantError(t, "d\ta\nd\tq/b", api.ErrText, 4)
	wantError(t, "d\ta\r\nd\tb\r\n", api.OK, 0)
	wantError(t, "\n", api.ErrText, 0)
	wantError(t, "d\ta\n\n", api.ErrText, 4)
	wantError(t, "d\ta\n\nd\tb\n", api.ErrText, 4)
	wantError(t, "d\ta\n ", api.ErrText, 4)
	wantError(t, lines(200)+"d\tmore", api.ErrText, len(lines(200)))
}

// B1: what may stand in a name.
func TestLoadNameBytes(t *testing.T) {
	for c := range 256 {
		one := string([]byte{byte(c)})
		alone, between, place := api.OK, api.OK, 0
		switch c {
		case 0, 9:
			alone, between = api.ErrText, api.ErrText
		case 10: // it ends the line: what is behind is the next one
			alone, between, place = api.ErrText, api.ErrText, 4
		case '/':
			alone, between = api.ErrText, api.ErrNone
		case '.':
			alone = api.ErrText
		}
		wantError(t, "d\t"+one+"\n", alone, 0)
		wantError(t, "d\ta"+one+"b\n", between, place)
	}
	for _, name := range []string{"...", ".a", "a.", "..a", " ", "\r", "\\", "\\t", "\xff\xfe", "*?[]", "-o", "ä"} {
		if l := load(t, "d\t"+name+"\n"); l[1].Name != name {
			t.Errorf("the node of %q is called %q", name, l[1].Name)
		}
	}
}

// B1: one, nine and ten digits.
func TestLoadNumbers(t *testing.T) {
	for s, want := range map[string]int{
		"0": 0, "7": 7, "10": 10, "007": 7, "000000000": 0, "000000001": 1, "123456789": 123456789, "999999999": 999999999,
	} {
		if n := load(t, "f\ta\t"+s+"\t5\n")[1]; n.Size != want || n.Time != 5 {
			t.Errorf("size %q is read as %d, with time %d", s, n.Size, n.Time)
		}
		if n := load(t, "f\ta\t5\t"+s+"\n")[1]; n.Time != want || n.Size != 5 {
			t.Errorf("time %q is read as %d, with size %d", s, n.Time, n.Size)
		}
		if n := load(t, "t\ta\t"+s+"\txy\n")[1]; n.Time != want || n.Size != 2 {
			t.Errorf("time %q of content is read as %d, with size %d", s, n.Time, n.Size)
		}
	}
}

// B1: signs in content and targets, and every byte there.
func TestLoadTexts(t *testing.T) {
	for field, want := range map[string]string{
		`\\`: `\`, `\t`: "\t", `\n`: "\n", `\0`: "\x00", `\\t`: `\t`, `\\\t`: "\\\t", `\\\\`: `\\`, `a\nb\n`: "a\nb\n",
		`\00`: "\x000", `t`: "t", `n0`: "n0", "/": "/", " ": " ", "\r": "\r", "\xff": "\xff", "..": "..",
	} {
		if n := load(t, "t\ta\t1\t"+field+"\n")[1]; n.Kind != 'f' || n.Text != want || n.Size != len(want) {
			t.Errorf("content %q is read as %q, size %d", field, n.Text, n.Size)
		}
		if n := load(t, "l\ta\t"+field+"\n")[1]; n.Kind != 'l' || n.Text != want || n.Size != 0 || n.Time != 0 {
			t.Errorf("target %q is read as %q, size %d, time %d", field, n.Text, n.Size, n.Time)
		}
	}
	for c := range 256 {
		if c == '\n' {
			continue // it ends the line
		}
		one := string([]byte{byte(c)})
		plain, escaped := api.OK, api.ErrText
		if strings.Contains("\x00\t\\", one) {
			plain = api.ErrText
		}
		if strings.Contains(`\tn0`, one) {
			escaped = api.OK
		}
		wantError(t, "t\ta\t1\t"+one+"\n", plain, 0)
		wantError(t, "l\ta\t"+one+"\n", plain, 0)
		wantError(t, "t\ta\t1\t\\"+one+"\n", escaped, 0)
		wantError(t, "l\ta\t\\"+one+"\n", escaped, 0)
	}
}

// B1, ErrLong: at MaxText and just past it.
func TestLoadMaxText(t *testing.T) {
	head, end := "t\ta\t1\t", "\n"
	fill := strings.Repeat("x", 20000-len(head)-len(end))
	l := load(t, head+fill+end)
	if len(l) != 2 || l[1].Text != fill || l[1].Size != len(fill) {
		t.Errorf("a text of MaxText bytes is not read whole: %d nodes", len(l))
	}
	wantError(t, head+fill+"x"+end, api.ErrLong, 0)
	wantError(t, strings.Repeat("x", 20000), api.ErrText, 0)
	wantError(t, strings.Repeat("x", 20001), api.ErrLong, 0)
	wantError(t, "d\ta\n"+strings.Repeat("\n", 19997), api.ErrLong, 0)
	wantError(t, strings.Repeat("d\ta\n", 1000000), api.ErrLong, 0)
}

// B1: at MaxName and just past it, in bytes.
func TestLoadMaxName(t *testing.T) {
	name := strings.Repeat("n", 60)
	l := load(t, "d\t"+name+"\nd\t"+name+"/"+name+"\n")
	if l[1].Name != name || l[2].Name != name {
		t.Errorf("names of MaxName bytes are read as %q and %q", l[1].Name, l[2].Name)
	}
	wantError(t, "d\t"+name+"n\n", api.ErrText, 0)
	wantError(t, "d\t"+strings.Repeat("ä", 30)+"\n", api.OK, 0)
	wantError(t, "d\t"+strings.Repeat("ä", 30)+"a\n", api.ErrText, 0)
	wantError(t, "d\t"+name+"\nd\t"+name+"/"+name+"n\n", api.ErrText, 63)
}

// B1, ErrMany: at MaxNodes and just past it.
func TestLoadMaxNodes(t *testing.T) {
	text := lines(200)
	if l := load(t, text); len(l) != 201 || l[200].Name != "n199" {
		t.Errorf("MaxNodes lines make %d nodes", len(l))
	}
	wantError(t, lines(201), api.ErrMany, len(text))
	wantError(t, lines(300), api.ErrMany, len(text))
	// Of the reasons against that line the one that is named first is told.
	wantError(t, text+"d\tn0\n", api.ErrMany, len(text))
	wantError(t, text+"d\tq/a\n", api.ErrMany, len(text))
	wantError(t, text+"q\tmore\n", api.ErrText, len(text))
	wantError(t, text+"\n", api.ErrText, len(text))
	wantError(t, text+"d\tmore\nq\n", api.ErrMany, len(text))
}

// B1, ErrNone, ErrKind and ErrTwice.
func TestLoadPlaces(t *testing.T) {
	for _, c := range []struct {
		text  string
		want  api.Errno
		place int
	}{
		{"d\ta/b\n", api.ErrNone, 0},
		{"d\ta\nd\tb/a\n", api.ErrNone, 4},
		{"d\ta\nd\ta/b/c\n", api.ErrNone, 4},
		{"d\ta/b\nd\ta\n", api.ErrNone, 0},
		{"d\tab\nd\ta/b\n", api.ErrNone, 5},
		{"d\ta\nl\tln\ta\nd\ta/b\nd\tln/b/c\n", api.ErrNone, 17},
		{"f\ta\t1\t2\nd\ta/b\n", api.ErrKind, 8},
		{"t\ta\t1\tx\nd\ta/b\n", api.ErrKind, 8},
		{"l\ta\tb\nd\ta/b\n", api.ErrKind, 6},
		{"d\tb\nl\ta\tb\nf\ta/b\t1\t1\n", api.ErrKind, 10},
		{"f\ta\t1\t2\nd\ta/b/c\n", api.ErrNone, 8},
		{"x\ta\nd\ta/b\n", api.OK, 0},
		{"d\ta\nd\ta\n", api.ErrTwice, 4},
		{"d\ta\nf\ta\t1\t2\n", api.ErrTwice, 4},
		{"l\ta\ta\nl\ta\ta\n", api.ErrTwice, 6},
		{"d\ta\nd\ta/b\nx\ta/b\n", api.ErrTwice, 10},
		{"d\ta\nd\ta/a\nd\ta/a/a\n", api.OK, 0},
		{"d\ta\nd\tA\n", api.OK, 0},
	} {
		wantError(t, c.text, c.want, c.place)
	}
}

// B1: the first line that cannot be is told, whatever is wrong with later ones.
func TestLoadFirstLine(t *testing.T) {
	for _, c := range []struct {
		text  string
		want  api.Errno
		place int
	}{
		{"d\ta\nd\ta\nq\n", api.ErrTwice, 4},
		{"d\tq/a\nd\ta\nd\ta\n", api.ErrNone, 0},
		{"d\ta\nd\ta\nd\tq/a\n", api.ErrTwice, 4},
		{"f\ta\t1\t1\nd\ta/b\nq", api.ErrKind, 8},
		{"q\nd\ta\nd\ta\n", api.ErrText, 0},
		{"d\ta\nd\ta\nd\tb", api.ErrTwice, 4},
		{"d\ta\nd\ta\n" + lines(300), api.ErrTwice, 4},
	} {
		wantError(t, c.text, c.want, c.place)
	}
}

// No two lists of an answer share memory, nor do two answers.
func TestLoadIsNewMemory(t *testing.T) {
	text := "d\ta\nd\tb\nd\ta/c\nd\tb/d\nd\ta/e\n"
	first, whole := load(t, text), load(t, text)
	for i := range first {
		first[i].Kids = append(first[i].Kids, -7)
		first[i].Kids[0] = -9
	}
	for i := range first {
		if len(first[i].Kids) != len(whole[i].Kids)+1 {
			t.Errorf("the Kids of node %d were changed: %v", i, first[i].Kids)
		}
		if first[i].Kids[0] != -9 || len(first[i].Kids) > 1 && first[i].Kids[len(first[i].Kids)-1] != -7 {
			t.Errorf("the Kids of node %d share memory: %v", i, first[i].Kids)
		}
	}
	if !sameNodes(whole, load(t, text)) {
		t.Error("two answers share memory")
	}
}
