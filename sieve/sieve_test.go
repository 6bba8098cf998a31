package sieve_test

import (
	"math"
	"slices"
	"strings"
	"testing"

	"sieve/api"
	"sieve/sieve"
)

const forest = "d\ta\nf\ta/b\t5\t7\nd\ta/c\nf\ta/c/d\t600\t9\nl\tl\ta\nx\ts\nf\tz1\t1\t1\nf\tz2\t1\t1\nf\t)\t1\t1\n"

// shown is Out with a blank for each byte 10 and `0 ` for each byte 0, and nothing behind the last one.
func shown(out string) string {
	return strings.TrimSuffix(strings.NewReplacer("\n", " ", "\x00", "0 ").Replace(out), " ")
}

func checkRun(t *testing.T, args []string, out, notes string) {
	t.Helper()
	r, errno, place := sieve.Run(forest, args, 1000)
	status := 0
	if notes != "" {
		status = 1
	}
	if got := strings.Join(r.Notes, ";"); errno != api.OK || place != 0 || shown(r.Out) != out || got != notes || r.Status != status {
		t.Errorf("%q:\ngot  %q %q %d, error %d at %d\nwant %q %q", args, shown(r.Out), got, r.Status, errno, place, out, notes)
	}
}

func checkFault(t *testing.T, text string, args []string, most int, errno api.Errno, place int) {
	t.Helper()
	r, gotErrno, gotPlace := sieve.Run(text, args, most)
	if gotErrno != errno || gotPlace != place || r.Out != "" || len(r.Notes) > 0 || r.Status != 0 {
		t.Errorf("%.60q %.200q %d: %+v, error %d at %d, want %d at %d", text, args, most, r, gotErrno, gotPlace, errno, place)
	}
}

const all = "/ /) /a /a/b /a/c /a/c/d /l /s /z1 /z2"

// K1: without anything all is told; no start is `/`.
func TestNothingAsked(t *testing.T) {
	checkRun(t, nil, all, "/s: shut")
	checkRun(t, []string{}, all, "/s: shut")
	checkRun(t, []string{"/"}, all, "/s: shut")
	checkRun(t, []string{"-type", "l"}, "/l", "/s: shut")
	checkRun(t, []string{"(", "-type", "l", ")"}, "/l", "/s: shut")
	checkRun(t, []string{"!", "-type", "f"}, "/ /a /a/c /l /s", "/s: shut")
	r, errno, place := sieve.Run("", nil, 1)
	if errno != api.OK || place != 0 || r.Out != "/\n" || len(r.Notes) > 0 || r.Status != 0 {
		t.Errorf("of an empty tree: %+v, error %d at %d", r, errno, place)
	}
}

// K1: `-L` and `-P`, one of them, and only at the beginning.
func TestFollowing(t *testing.T) {
	checkRun(t, []string{"-P"}, all, "/s: shut")
	checkRun(t, []string{"-L"}, "/ /) /a /a/b /a/c /a/c/d /l /l/b /l/c /l/c/d /s /z1 /z2", "/s: shut")
	checkRun(t, []string{"-L", "l"}, "l l/b l/c l/c/d", "")
	checkRun(t, []string{"-P", "l"}, "l", "")
	checkRun(t, []string{"l"}, "l", "")
	checkRun(t, []string{"-L", "l", "-type", "f"}, "l/b l/c/d", "")
	checkRun(t, []string{"-L", "-type", "l"}, "", "/s: shut")
	for _, args := range [][]string{{"-L", "-L"}, {"-L", "-P"}, {"-P", "-L"}, {"-P", "-P"}, {"l", "-L"}, {"l", "-P"}, {"l", "-L", "-true"}} {
		checkFault(t, forest, args, 1000, api.ErrText, 1)
	}
	checkFault(t, forest, []string{"-depth", "-L"}, 1000, api.ErrText, 1)
	checkFault(t, forest, []string{"-true", "-L"}, 1000, api.ErrText, 1)
	checkFault(t, forest, []string{"-L", "l", "-L"}, 1000, api.ErrText, 2)
	checkFault(t, forest, []string{"-l"}, 1000, api.ErrText, 0)
	checkFault(t, forest, []string{"-LP"}, 1000, api.ErrText, 0)
}

// K1: starts, up to what is none.
func TestStarts(t *testing.T) {
	checkRun(t, []string{"a/b"}, "a/b", "")
	checkRun(t, []string{"z2", "a/b", "z1"}, "z2 a/b z1", "")
	checkRun(t, []string{"z1", "z1"}, "z1 z1", "")
	checkRun(t, []string{"no", "z1", "z1/"}, "z1", "no: 6;z1/: 7")
	checkRun(t, []string{""}, "", ": 6")
	checkRun(t, []string{")", "a/b"}, ") a/b", "")
	checkRun(t, []string{"z1", "(", "-true", ")"}, "z1", "")
	checkRun(t, []string{"z1", "!", "-false"}, "z1", "")
	checkRun(t, []string{"z1", "-true", ",", "-false"}, "", "")
	checkRun(t, []string{"((", "!!", ",,", "()", ",(", "z1"}, "z1", "((: 6;!!: 6;,,: 6;(): 6;,(: 6")
	checkRun(t, []string{" -true", "+1", "z1"}, "z1", " -true: 6;+1: 6")
	checkFault(t, forest, []string{"z1", ","}, 1000, api.ErrText, 1)
	checkFault(t, forest, []string{","}, 1000, api.ErrText, 0)
	checkFault(t, forest, []string{"z1", "z2", ",", "-true"}, 1000, api.ErrText, 2)
	checkFault(t, forest, []string{"-"}, 1000, api.ErrText, 0)
	checkFault(t, forest, []string{"z1", "-", "z2"}, 1000, api.ErrText, 1)
	checkFault(t, forest, []string{"z1", "-true", "z2"}, 1000, api.ErrText, 2)
	checkFault(t, forest, []string{"-depth", "z1"}, 1000, api.ErrText, 1)
	checkFault(t, forest, []string{"z1", "(", "-true", ")", ")"}, 1000, api.ErrText, 4)
	checkFault(t, forest, []string{"z1", "("}, 1000, api.ErrText, 2)
}

// K1: starts with groups in braces, also wrong ones, and nothing but starts is expanded.
func TestBraces(t *testing.T) {
	checkRun(t, []string{"{a,z1}"}, "a a/b a/c a/c/d z1", "")
	checkRun(t, []string{"z{2..1}"}, "z2 z1", "")
	checkRun(t, []string{"z{1..3}", "a/{b,c/d}"}, "z1 z2 a/b a/c/d", "z3: 6")
	checkRun(t, []string{"{a,a}/b"}, "a/b a/b", "")
	checkRun(t, []string{"{z1,}"}, "z1", ": 6")
	checkRun(t, []string{"{a}", "{", "z1{", `z\{1,2}`}, "", `{a}: 6;{: 6;z1{: 6;z\{1,2}: 6`)
	checkRun(t, []string{"{-true,z1}"}, "z1", "-true: 6")
	checkRun(t, []string{"-L", "{l,s}"}, "l l/b l/c l/c/d s", "s: shut")
	checkRun(t, []string{"/", "-name", "{a,b}"}, "", "/s: shut")
	checkFault(t, forest, []string{"{1..300}"}, 1000, api.ErrMany, 0)
	checkFault(t, forest, []string{"{1..201}"}, 1000, api.ErrMany, 0)
	checkFault(t, forest, []string{"-L", "{1..201}"}, 1000, api.ErrMany, 1)
	checkFault(t, forest, []string{"a", "{1..200}", "{1..201}", "{1..300}"}, 1000, api.ErrMany, 2)
	checkFault(t, forest, []string{strings.Repeat("x", 201)}, 1000, api.ErrLong, 0)
	checkFault(t, forest, []string{"-P", "a", strings.Repeat("x", 201), "{1..300}"}, 1000, api.ErrLong, 2)
	checkFault(t, forest, []string{"{1..300}", "-maxdepth"}, 1000, api.ErrMany, 0)
	checkFault(t, forest, []string{"a", "-{1..300}"}, 1000, api.ErrText, 1)
	long := "./" + strings.Repeat("/", 196) + "z1"
	checkRun(t, []string{long}, long, "")
	r, errno, _ := sieve.Run(forest, []string{"{1..200}", "z{1..200}"}, 2)
	if errno != api.OK || r.Out != "z1\nz2\n" || len(r.Notes) != 398 {
		t.Errorf("of 400 starts: %q and %d lines, error %d", r.Out, len(r.Notes), errno)
	}
}

// K1: -depth, -mindepth and -maxdepth, as often as they stand there; the last one of each counts.
func TestOptions(t *testing.T) {
	checkRun(t, []string{"a", "-depth"}, "a/b a/c/d a/c a", "")
	checkRun(t, []string{"a", "-depth", "-depth"}, "a/b a/c/d a/c a", "")
	checkRun(t, []string{"a", "-maxdepth", "0"}, "a", "")
	checkRun(t, []string{"a", "-maxdepth", "1"}, "a a/b a/c", "")
	checkRun(t, []string{"a", "-maxdepth", "2"}, "a a/b a/c a/c/d", "")
	checkRun(t, []string{"a", "-maxdepth", "999999999"}, "a a/b a/c a/c/d", "")
	checkRun(t, []string{"a", "-mindepth", "0"}, "a a/b a/c a/c/d", "")
	checkRun(t, []string{"a", "-mindepth", "1"}, "a/b a/c a/c/d", "")
	checkRun(t, []string{"a", "-mindepth", "2"}, "a/c/d", "")
	checkRun(t, []string{"a", "-mindepth", "999999999"}, "", "")
	checkRun(t, []string{"a", "-mindepth", "1", "-maxdepth", "1"}, "a/b a/c", "")
	checkRun(t, []string{"a", "-maxdepth", "1", "-mindepth", "1"}, "a/b a/c", "")
	checkRun(t, []string{"a", "-mindepth", "2", "-maxdepth", "1"}, "", "")
	checkRun(t, []string{"a", "-maxdepth", "0", "-maxdepth", "1"}, "a a/b a/c", "")
	checkRun(t, []string{"a", "-maxdepth", "1", "-mindepth", "2", "-maxdepth", "2", "-mindepth", "1", "-maxdepth", "0", "-mindepth", "0"}, "a", "")
	checkRun(t, []string{"a", "-mindepth", "2", "-mindepth", "1", "-depth"}, "a/b a/c/d a/c", "")
	checkRun(t, []string{"a", "-depth", "-maxdepth", "000000001", "-depth", "-type", "d"}, "a/c a", "")
	checkRun(t, []string{"-depth"}, "/) /a/b /a/c/d /a/c /a /l /s /z1 /z2 /", "/s: shut")
	checkRun(t, []string{"-maxdepth", "0"}, "/", "")
	checkRun(t, []string{"-L", "-maxdepth", "0"}, "/", "")
	checkRun(t, []string{"-L", "l", "-maxdepth", "1", "-depth", "-type", "f"}, "l/b", "")
	checkRun(t, []string{"a", "-depth", "(", "-name", "c", "-prune", ")", "-o", "-print"}, "a/b a/c/d a", "")
}

// K1: options without a number, with what is none, and behind the first test.
func TestWrongOptions(t *testing.T) {
	for _, option := range []string{"-mindepth", "-maxdepth"} {
		for _, word := range []string{"", "x", "-1", "+1", "1x", " 1", "1 ", "1.0", "0x1", "0000000001", "1000000000", "12345678901234567890", "-depth", "-mindepth", "-maxdepth", "-true", "(", "{1,2}", "\xb2"} {
			checkFault(t, forest, []string{option, word}, 1000, api.ErrKind, 1)
			checkFault(t, forest, []string{"-L", "a", "a", "-depth", option, "1", option, word, option, "x", "-no"}, 1000, api.ErrKind, 7)
		}
		checkFault(t, forest, []string{option}, 1000, api.ErrText, 1)
		checkFault(t, forest, []string{"a", "-depth", option}, 1000, api.ErrText, 3)
		checkFault(t, forest, []string{"-P", "a", option, "1", option}, 1000, api.ErrText, 5)
		checkFault(t, forest, []string{"a", "-true", option, "1"}, 1000, api.ErrText, 2)
		checkFault(t, forest, []string{"a", "-true", "-a", option, "1"}, 1000, api.ErrText, 3)
		checkFault(t, forest, []string{"a", "(", option, "1", ")"}, 1000, api.ErrText, 2)
		checkFault(t, forest, []string{"a", option, "1", "1"}, 1000, api.ErrText, 3)
		checkFault(t, forest, []string{option + "h", "1"}, 1000, api.ErrText, 0)
	}
	checkFault(t, forest, []string{"a", "-true", "-depth"}, 1000, api.ErrText, 2)
	checkFault(t, forest, []string{"a", "-depth", "1"}, 1000, api.ErrText, 2)
	checkFault(t, forest, []string{"a", "-DEPTH"}, 1000, api.ErrText, 1)
}

// K1: the errors of what is left, their numbers raised by how many arguments are ahead.
func TestWrongTests(t *testing.T) {
	aheads := [][]string{nil, {"-L"}, {"-P", "a"}, {"a", "{z1,z2}", "no"}, {"a", "-depth"}, {"-L", "a", "-maxdepth", "3", "-depth", "-mindepth", "1"}, {"-depth"}}
	for _, ahead := range aheads {
		for _, c := range []struct {
			args  string
			errno api.Errno
			place int
		}{
			{"-foo", api.ErrText, 0},
			{"-true -foo", api.ErrText, 1},
			{"-true a", api.ErrText, 1},
			{"-name", api.ErrText, 1},
			{"-true -o", api.ErrText, 2},
			{"( -true", api.ErrText, 2},
			{"-type x", api.ErrKind, 1},
			{"-true -size 1x", api.ErrKind, 2},
			{"-regex (", api.ErrKind, 1},
			{strings.Repeat("! ", 21) + "-true", api.ErrDeep, 20},
			{strings.Repeat("( ", 21) + "-true", api.ErrDeep, 20},
			{strings.Repeat("-true ", 101), api.ErrMany, 100},
		} {
			args := append(slices.Clone(ahead), strings.Fields(c.args)...)
			checkFault(t, forest, args, 1000, c.errno, c.place+len(ahead))
			checkFault(t, forest, args, -1, c.errno, c.place+len(ahead))
		}
		if _, errno, place := sieve.Run(forest, append(slices.Clone(ahead), strings.Fields(strings.Repeat("-true ", 100))...), 1000); errno != api.OK || place != 0 {
			t.Errorf("of 100 arguments behind %q: error %d at %d", ahead, errno, place)
		}
	}
}

// K1: starts do not count where arguments are too many.
func TestManyStarts(t *testing.T) {
	checkRun(t, slices.Repeat([]string{"z1"}, 300), strings.TrimSuffix(strings.Repeat("z1 ", 300), " "), "")
	checkFault(t, forest, append(slices.Repeat([]string{"z1"}, 300), "-foo"), 1000, api.ErrText, 300)
}

// K1: the tree's errors, ahead of all others, with their places raised.
func TestWrongTrees(t *testing.T) {
	for _, c := range []struct {
		text  string
		errno api.Errno
		place int
	}{
		{"d\ta", api.ErrText, 1000},
		{"\n", api.ErrText, 1000},
		{"d\ta\nq\tb\n", api.ErrText, 1004},
		{"d\ta\nf\tb\t1\n", api.ErrText, 1004},
		{"d\ta\nd\tb/c\n", api.ErrNone, 1004},
		{"f\ta\t1\t1\nd\ta/c\n", api.ErrKind, 1008},
		{"d\ta\nd\tb\nd\ta\n", api.ErrTwice, 1008},
		{strings.Repeat("x", 20001), api.ErrLong, 1000},
		{rows(200) + "d\tzz\n", api.ErrMany, 1000 + len(rows(200))},
	} {
		for _, args := range [][]string{nil, {"/"}, {"-foo"}, {"-maxdepth"}, {"{1..300}"}} {
			for _, most := range []int{1000, 0, -1, 100001} {
				checkFault(t, c.text, args, most, c.errno, c.place)
			}
		}
	}
	r, errno, _ := sieve.Run(rows(200), nil, 201)
	if errno != api.OK || strings.Count(r.Out, "\n") != 201 {
		t.Errorf("of 200 lines: error %d", errno)
	}
}

// rows is a tree's text with so many lines.
func rows(count int) string {
	var text strings.Builder
	for k := range count {
		text.WriteString("d\tr" + string([]byte{'a' + byte(k/26), 'a' + byte(k%26)}) + "\n")
	}
	return text.String()
}

// K1: the walk's errors, behind all others, without a place.
func TestMost(t *testing.T) {
	for most, errno := range map[int]api.Errno{
		-1: api.ErrRange, math.MinInt: api.ErrRange, 100001: api.ErrRange, math.MaxInt: api.ErrRange, 0: api.ErrMany, 1: api.ErrMany, 9: api.ErrMany,
	} {
		checkFault(t, forest, nil, most, errno, 0)
		checkFault(t, forest, []string{"-L", "/", "z1", "-depth"}, most, errno, 0)
		checkFault(t, forest, []string{"-foo"}, most, api.ErrText, 0)
		checkFault(t, forest, []string{"z1", "-maxdepth"}, most, api.ErrText, 2)
		checkFault(t, forest, []string{"z1", "{1..300}"}, most, api.ErrMany, 1)
	}
	for _, most := range []int{10, 11, 100000} {
		r, errno, place := sieve.Run(forest, nil, most)
		if errno != api.OK || place != 0 || shown(r.Out) != all {
			t.Errorf("with %d: %+v, error %d at %d", most, r, errno, place)
		}
	}
	checkFault(t, forest, []string{"a", "a"}, 7, api.ErrMany, 0)
	if _, errno, _ := sieve.Run(forest, []string{"a", "a", "no"}, 8); errno != api.OK {
		t.Errorf("of two starts: error %d", errno)
	}
}

// K1: without -maxdepth a walk goes down to the last node.
func TestDeep(t *testing.T) {
	text, way := "", ""
	for range 90 {
		way += "/a"
		text += "d\t" + way[1:] + "\n"
	}
	r, errno, _ := sieve.Run(text, []string{"-empty"}, 100)
	if errno != api.OK || r.Out != way+"\n" {
		t.Errorf("of a deep tree: %q, error %d", r.Out, errno)
	}
}

// DOC.md's example.
func TestExample(t *testing.T) {
	r, errno, _ := sieve.Run("d\ta\nf\ta/b\t5\t7\n", []string{"-type", "f"}, 10)
	if errno != api.OK || r.Out != "/a/b\n" {
		t.Errorf("%+v, error %d", r, errno)
	}
}

// What holds everywhere: what is handed in is not changed, also where there is room behind it.
func TestChangesNothing(t *testing.T) {
	room := []string{"-L", "{a,z1}", "-maxdepth", "1", "-type", "f", "x", "y"}
	before := slices.Clone(room)
	one, _, _ := sieve.Run(forest, room[:6], 100)
	two, _, _ := sieve.Run(forest, room[:6], 100)
	if !slices.Equal(room, before) {
		t.Errorf("Run has changed its arguments: %q", room)
	}
	if shown(one.Out) != "a/b z1" || two.Out != one.Out {
		t.Errorf("%+v, and then %+v", one, two)
	}
}
