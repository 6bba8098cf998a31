package sieve_test

import (
	"math/rand/v2"
	"reflect"
	"regexp"
	"slices"
	"strconv"
	"strings"
	"testing"

	"sieve/api"
	"sieve/brace"
	"sieve/expr"
	"sieve/sieve"
	"sieve/tree"
	"sieve/walk"
)

var (
	noStart = regexp.MustCompile(`^([(!,]$|-)`)
	number  = regexp.MustCompile(`^[0-9]{1,9}$`)
)

// modelRun reads its arguments in another way: it cuts them into pieces by what they look like.
func modelRun(text string, args []string, most int) (api.Result, api.Errno, int) {
	l, errno, place := tree.Load(text)
	if errno != api.OK {
		return api.Result{}, errno, 1000 + place
	}
	o := api.Options{Max: 1000000000, Most: most}
	rest := args
	if len(rest) > 0 && slices.Contains([]string{"-L", "-P"}, rest[0]) {
		o.Follow = rest[0] == "-L"
		rest = rest[1:]
	}
	cut := slices.IndexFunc(rest, noStart.MatchString)
	if cut < 0 {
		cut = len(rest)
	}
	var starts []string
	if cut == 0 {
		starts = []string{"/"}
	}
	for k, start := range rest[:cut] {
		texts, errno := brace.Expand(start)
		if errno != api.OK {
			return api.Result{}, errno, len(args) - len(rest) + k
		}
		starts = append(starts, texts...)
	}
	rest = rest[cut:]
	for len(rest) > 0 && regexp.MustCompile(`^-(depth|m(in|ax)depth)$`).MatchString(rest[0]) {
		switch {
		case rest[0] == "-depth":
			o.Depth = true
			rest = rest[1:]
			continue
		case len(rest) == 1:
			return api.Result{}, api.ErrText, len(args)
		case !number.MatchString(rest[1]):
			return api.Result{}, api.ErrKind, len(args) - len(rest) + 1
		}
		n, _ := strconv.Atoi(rest[1])
		if rest[0] == "-mindepth" {
			o.Min = n
		} else {
			o.Max = n
		}
		rest = rest[2:]
	}
	test, errno, place := expr.Parse(rest)
	if errno != api.OK {
		return api.Result{}, errno, len(args) - len(rest) + place
	}
	r, errno := walk.Walk(l, starts, test, o)
	return r, errno, 0
}

func checkModel(t *testing.T, text string, args []string, most int) api.Errno {
	t.Helper()
	want, wantErrno, wantPlace := modelRun(text, args, most)
	got, errno, place := sieve.Run(text, args, most)
	if errno != wantErrno || place != wantPlace || !reflect.DeepEqual(got, want) {
		t.Fatalf("Run(%q, %q, %d):\ngot  %+v %d %d\nwant %+v %d %d", text, args, most, got, errno, place, want, wantErrno, wantPlace)
	}
	return errno
}

// K1: all rows of up to four arguments.
func TestModelOfShortRows(t *testing.T) {
	words := []string{"-L", "-P", "a", "{a,l}", "{1..201}", "-depth", "-mindepth", "-maxdepth", "1", "-true", "!", ",", ")", ""}
	rows := [][]string{nil}
	for k := 0; k < len(rows); k++ {
		checkModel(t, forest, rows[k], 12)
		if len(rows[k]) < 4 {
			for _, word := range words {
				rows = append(rows, append(rows[k][:len(rows[k]):len(rows[k])], word))
			}
		}
	}
}

// K1: long rows that are mostly right.
func TestModelOfLongRows(t *testing.T) {
	r := rand.New(rand.NewPCG(10, 1))
	one := func(words ...string) string { return words[r.IntN(len(words))] }
	kinds := map[api.Errno]int{}
	for range 20000 {
		args := strings.Fields(one("", "-L", "-P", "-L -P"))
		for range r.IntN(4) {
			args = append(args, one("a", "l", "{l,s}/", "z{1..2}", "/", "a/b", "no", "{1..150}", "{x,{1..200}}"))
		}
		for range r.IntN(5) {
			args = append(args, strings.Fields(one("-depth", "-mindepth 1", "-maxdepth 2", "-mindepth 0", "-maxdepth 1", "-maxdepth 999999999", "-mindepth 1000000000", "-maxdepth", "-depth"))...)
		}
		for range r.IntN(4) {
			args = append(args, strings.Fields(one("-true", "-type f", "-name ?", "-o -true", "( -empty )", "! -print", ", -print0", "-prune", "-depth", "a"))...)
		}
		kinds[checkModel(t, forest, args, r.IntN(60))]++
	}
	for _, errno := range []api.Errno{api.OK, api.ErrText, api.ErrKind, api.ErrMany} {
		if kinds[errno] < 500 {
			t.Errorf("only %d rows with %d", kinds[errno], errno)
		}
	}
}

func FuzzRun(f *testing.F) {
	f.Add(forest, "-L a {l,s} -depth -maxdepth 2 -name a -o -print", 100)
	f.Add("d\ta\n", "-mindepth x", 0)
	f.Fuzz(func(t *testing.T, text, args string, most int) {
		checkModel(t, text, strings.Split(args, " "), most)
		checkModel(t, text, strings.Fields(args), most)
	})
}
