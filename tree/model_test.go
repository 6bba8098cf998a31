package tree_test

import (
	"fmt"
	"math/rand/v2"
	"regexp"
	"slices"
	"strings"
	"testing"

	"sieve/api"
	"sieve/path"
	"sieve/tree"
)

// modelFind tells Find's answer in another way: what is left to go is one list
// of parts, a link's parts are put ahead of it, and a / at the end is a `.`
// more. A path of a node is looked up in a map, not by Kids.
func modelFind(l []api.Node, from int, s string, follow bool) (int, api.Errno) {
	if from < 0 || from >= len(l) || s == "" {
		return 0, api.ErrNone
	}
	type step struct {
		up   int
		name string
	}
	steps := map[step]int{}
	for k, n := range l {
		steps[step{n.Up, n.Name}] = k
	}
	at, links, left := from, 0, []string(nil)
	enter := func(s string, from int) {
		at = from
		if strings.HasPrefix(s, "/") {
			at = 0
		}
		parts := path.Parts(s)
		if strings.HasSuffix(s, "/") {
			parts = append(parts, ".")
		}
		left = slices.Concat(parts, left)
	}
	enter(s, from)
	for len(left) > 0 {
		part := left[0]
		left = left[1:]
		if l[at].Kind != 'd' && l[at].Kind != 'x' {
			return 0, api.ErrKind
		}
		if part == "." || part == ".." {
			if part == ".." {
				at = max(l[at].Up, 0)
			}
			continue
		}
		kid, ok := steps[step{at, part}]
		if !ok {
			return 0, api.ErrNone
		}
		at = kid
		if l[kid].Kind == 'l' && (len(left) > 0 || follow) {
			if links++; links > 40 {
				return 0, api.ErrLoop
			}
			enter(l[kid].Text, l[kid].Up)
		}
	}
	return at, api.OK
}

func randomPath(r *rand.Rand, names []string) string {
	s := ""
	for range r.IntN(6) {
		s += names[r.IntN(len(names))]
		for range r.IntN(12) / 9 {
			s += "/"
		}
		s += "/"
	}
	if r.IntN(4) == 0 {
		s = "/" + s
	}
	if r.IntN(4) > 0 {
		s = strings.TrimSuffix(s, "/")
	}
	return s
}

// randomTree makes a text with many links that lead somewhere or in rings.
func randomTree(r *rand.Rand) string {
	names := []string{"a", "b", "c", "d"}
	targets := append([]string{".", ".."}, names...)
	text := ""
	for range 25 {
		way := names[r.IntN(len(names))]
		for range r.IntN(3) {
			way += "/" + names[r.IntN(len(names))]
		}
		line := ""
		switch r.IntN(6) {
		case 0, 1:
			line = "d\t" + way + "\n"
		case 2:
			line = "x\t" + way + "\n"
		case 3:
			line = "f\t" + way + "\t1\t2\n"
		default:
			line = "l\t" + way + "\t" + randomPath(r, targets) + "\n"
		}
		if _, e, _ := tree.Load(text + line); e == api.OK {
			text += line
		}
	}
	return text
}

// B3, against the model; and B2 of the same trees.
func TestFindAgainstModel(t *testing.T) {
	r := rand.New(rand.NewPCG(1, 2))
	names := []string{"a", "b", "c", "d", ".", ".."}
	for range 400 {
		text := randomTree(r)
		l := load(t, text)
		if got := tree.Print(l); got != text {
			t.Fatalf("Print = %q, want %q", got, text)
		}
		for k := range l {
			if got, e := tree.Find(l, 0, "/"+tree.Way(l, k), false); got != k || e != api.OK {
				t.Fatalf("Find of the way of node %d = %d, %d in %q", k, got, e, text)
			}
		}
		for range 100 {
			from, s, follow := r.IntN(len(l)+2)-1, randomPath(r, names), r.IntN(2) == 0
			got, e := tree.Find(l, from, s, follow)
			want, err := modelFind(l, from, s, follow)
			if got != want || e != err {
				t.Fatalf("Find(%d, %q, %v) = %d, %d, want %d, %d in %q", from, s, follow, got, e, want, err, text)
			}
		}
	}
}

// formOf is the form of a line whose names are ASCII.
func formOf() *regexp.Regexp {
	name := `(?:[^\x00\t\n/.]|\.[^\x00\t\n/.]|\.\.[^\x00\t\n/])[^\x00\t\n/]{0,59}`
	way := name + `(?:/` + name + `)*`
	number := `[0-9]{1,9}`
	text := `(?:[^\\\t\n\x00]|\\[\\tn0])`
	return regexp.MustCompile(fmt.Sprintf(`^(?:[dx]\t(%[1]s)|f\t(%[1]s)\t%[2]s\t%[2]s|t\t(%[1]s)\t%[2]s\t%[3]s*|l\t(%[1]s)\t%[3]s+)$`, way, number, text))
}

// modelLoad tells Load's error and place in another way.
func modelLoad(form *regexp.Regexp, text string) (api.Errno, int) {
	kinds := map[string]byte{"": 'd'}
	place := 0
	for i, line := range strings.SplitAfter(text, "\n") {
		if line == "" {
			break
		}
		body := strings.TrimSuffix(line, "\n")
		m := form.FindStringSubmatch(body)
		if m == nil || body == line {
			return api.ErrText, place
		}
		way := strings.Join(m[1:], "")
		up := ""
		if at := strings.LastIndex(way, "/"); at >= 0 {
			up = way[:at]
		}
		switch {
		case i >= 200:
			return api.ErrMany, place
		case kinds[up] == 0:
			return api.ErrNone, place
		case kinds[up] != 'd' && kinds[up] != 'x':
			return api.ErrKind, place
		case kinds[way] != 0:
			return api.ErrTwice, place
		}
		kinds[way] = body[0]
		place += len(line)
	}
	return api.OK, 0
}

// B1: texts of good and broken lines, against the model.
func TestLoadAgainstModel(t *testing.T) {
	r := rand.New(rand.NewPCG(3, 4))
	form := formOf()
	pieces := []string{"d", "x", "f", "t", "l", "q", "\t", "\t", "\t", "a", "b", "/", ".", "..", "0", "7", "123456789", "\\", "\\t", "\\n", "\\0", "n", "\x00", "\n"}
	counts := map[api.Errno]int{}
	for range 20000 {
		text := randomLines(r)
		for range r.IntN(4) {
			at := r.IntN(len(text) + 1)
			text = text[:at] + pieces[r.IntN(len(pieces))] + text[min(len(text), at+r.IntN(3)):]
		}
		_, got, place := tree.Load(text)
		want, wantPlace := modelLoad(form, text)
		if got != want || place != wantPlace {
			t.Fatalf("Load(%q) = error %d at %d, want %d at %d", text, got, place, want, wantPlace)
		}
		counts[got]++
	}
	for _, e := range []api.Errno{api.OK, api.ErrText, api.ErrNone, api.ErrKind, api.ErrTwice} {
		if counts[e] < 100 {
			t.Errorf("only %d texts of error %d", counts[e], e)
		}
	}
}

// randomLines makes a few lines of the form, which may lie anywhere.
func randomLines(r *rand.Rand) string {
	text := ""
	for range 1 + r.IntN(5) {
		way := string("abc"[r.IntN(3)])
		if r.IntN(2) == 0 {
			way += "/" + string("abc"[r.IntN(3)])
		}
		switch r.IntN(5) {
		case 0, 1:
			text += "d\t" + way + "\n"
		case 2:
			text += "f\t" + way + "\t12\t0\n"
		case 3:
			text += "t\t" + way + "\t3\ta\\n\\\\\n"
		case 4:
			text += "l\t" + way + "\t../a\n"
		}
	}
	return text
}

// FuzzLoad: what Load takes, Print writes again, unless that is too long.
func FuzzLoad(f *testing.F) {
	f.Add(places)
	f.Add("t\ta\t1\t\\\\\\n\n")
	f.Add("d\ta\nd\ta\n")
	f.Fuzz(func(t *testing.T, text string) {
		l, e, place := tree.Load(text)
		if e != api.OK {
			if l != nil || place < 0 || place > len(text) || place > 0 && text[place-1] != '\n' {
				t.Fatalf("Load(%q) = %v, %d, %d", text, l, e, place)
			}
			return
		}
		again := tree.Print(l)
		if len(again) <= 20000 && !sameNodes(load(t, again), l) {
			t.Fatalf("Load(Print) of %q has other nodes", text)
		}
		for k := range l {
			if got, e := tree.Find(l, 0, "/"+tree.Way(l, k), false); got != k || e != api.OK {
				t.Fatalf("Find of the way of node %d = %d, %d in %q", k, got, e, text)
			}
		}
	})
}
