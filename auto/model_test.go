package auto_test

import (
	"maps"
	"math/rand/v2"
	"regexp"
	"slices"
	"strconv"
	"strings"
	"testing"

	"sieve/api"
	"sieve/auto"
)

// modelEnds tells Match's answer in another way, by the document's words: where in s a text of e may end that begins at one of some places.
func modelEnds(e api.Expr, s string, from []bool) []bool {
	out := make([]bool, len(from))
	merge := func(ends []bool) (grown bool) {
		for i, in := range ends {
			grown = grown || in && !out[i]
			out[i] = out[i] || in
		}
		return grown
	}
	switch e.Op {
	case 1:
		merge(from)
	case 2:
		for i := range len(s) {
			out[i+1] = from[i] && strings.IndexByte(e.Set, s[i]) >= 0
		}
	case 3:
		merge(from)
		for _, k := range e.Kids {
			out = modelEnds(k, s, out)
		}
	case 4:
		for _, k := range e.Kids {
			merge(modelEnds(k, s, from))
		}
	case 5:
		for grown := merge(from); grown; {
			grown = false
			for _, k := range e.Kids {
				grown = merge(modelEnds(k, s, out)) || grown
			}
		}
	}
	return out
}

func modelMatch(e api.Expr, s string) bool {
	from := make([]bool, len(s)+1)
	from[0] = true
	return modelEnds(e, s, from)[len(s)]
}

// A rest is what is left of a set behind a text, as a text of its own in which equal sets are often written the same; rests are few.
type rest struct {
	key   string
	ends  bool
	after func(b byte) rest
	parts []rest // of a choice
}

func restNone() rest {
	return rest{key: "0", after: func(byte) rest { return restNone() }}
}

func restEmpty() rest {
	return rest{key: "1", ends: true, after: func(byte) rest { return restNone() }}
}

func restRow(a, b rest) rest {
	switch {
	case a.key == "0" || b.key == "0":
		return restNone()
	case a.key == "1":
		return b
	}
	return rest{key: "(" + a.key + "." + b.key + ")", ends: a.ends && b.ends, after: func(c byte) rest {
		out := restRow(a.after(c), b)
		if a.ends {
			out = restChoice(out, b.after(c))
		}
		return out
	}}
}

func restChoice(list ...rest) rest {
	flat := map[string]rest{}
	for _, r := range list {
		if len(r.parts) == 0 {
			r.parts = []rest{r}
		}
		for _, p := range r.parts {
			flat[p.key] = p
		}
	}
	delete(flat, "0")
	keys := slices.Sorted(maps.Keys(flat))
	switch len(keys) {
	case 0:
		return restNone()
	case 1:
		return flat[keys[0]]
	}
	out := rest{key: "{" + strings.Join(keys, "|") + "}"}
	for _, k := range keys {
		out.parts = append(out.parts, flat[k])
		out.ends = out.ends || flat[k].ends
	}
	parts := out.parts
	out.after = func(c byte) rest {
		var list []rest
		for _, p := range parts {
			list = append(list, p.after(c))
		}
		return restChoice(list...)
	}
	return out
}

func restAgain(a rest) rest {
	return rest{key: "[" + a.key + "]", ends: true, after: func(c byte) rest { return restRow(a.after(c), restAgain(a)) }}
}

func restOf(e api.Expr) rest {
	var kids []rest
	for _, k := range e.Kids {
		kids = append(kids, restOf(k))
	}
	switch e.Op {
	case 1:
		return restEmpty()
	case 2:
		return rest{key: strconv.Quote(e.Set), after: func(c byte) rest {
			if strings.IndexByte(e.Set, c) >= 0 {
				return restEmpty()
			}
			return restNone()
		}}
	case 3:
		out := restEmpty()
		for i := len(kids) - 1; i >= 0; i-- {
			out = restRow(kids[i], out)
		}
		return out
	case 4:
		return restChoice(kids...)
	case 5:
		return restAgain(restChoice(kids...))
	}
	return restNone()
}

// modelStates counts what can be told apart among the rests of a set, with bytes of abc alone in its Sets and d for all others; false, if there are too many for that.
func modelStates(e api.Expr) (int, bool) {
	rests, numbers := []rest{restOf(e)}, map[string]int{}
	numbers[rests[0].key] = 0
	var next [][4]int
	for k := 0; k < len(rests); k++ {
		var row [4]int
		for i := range row {
			r := rests[k].after("abcd"[i])
			if _, ok := numbers[r.key]; !ok {
				numbers[r.key] = len(rests)
				rests = append(rests, r)
			}
			row[i] = numbers[r.key]
		}
		next = append(next, row)
		if len(rests) > 150 || len(rests[k].key) > 20000 {
			return 0, false
		}
	}
	class := make([]int, len(rests))
	for k, r := range rests {
		if r.ends {
			class[k] = 1
		}
	}
	for count := 0; ; {
		seen := map[[5]int]int{}
		finer := make([]int, len(rests))
		for k := range rests {
			key := [5]int{class[k]}
			for i, n := range next[k] {
				key[i+1] = class[n]
			}
			if _, ok := seen[key]; !ok {
				seen[key] = len(seen)
			}
			finer[k] = seen[key]
		}
		if len(seen) == count {
			return count, true
		}
		count, class = len(seen), finer
	}
}

// modelDiffer tries the texts of abcd up to a length, one by one.
func modelDiffer(a, b api.Expr, most int) (string, bool) {
	level := []string{""}
	for range most + 1 {
		var next []string
		for _, s := range level {
			if modelMatch(a, s) != modelMatch(b, s) {
				return s, true
			}
			for _, c := range []string{"a", "b", "c", "d"} {
				next = append(next, s+c)
			}
		}
		level = next
	}
	return "", false
}

func randomExpr(r *rand.Rand, deep int) api.Expr {
	op := r.IntN(14)
	switch {
	case deep == 0 && op >= 4 || op >= 10:
		return one([]string{"a", "b", "c", "ab", "cb", "abc"}[r.IntN(6)])
	case op < 2:
		return api.Expr{Op: []int{0, 1, 1, 1, 2, 6, -3}[r.IntN(7)]}
	}
	e := api.Expr{Op: 3 + op%3}
	for range r.IntN(4) {
		e.Kids = append(e.Kids, randomExpr(r, max(deep-1, 0)))
	}
	return e
}

func texts(r *rand.Rand) []string {
	out := []string{"", "a", "b", "c", "d", "\x00", "\xff"}
	for range 30 {
		var s []byte
		for range r.IntN(9) {
			s = append(s, "aaabbbccd"[r.IntN(9)])
		}
		out = append(out, string(s))
	}
	return out
}

// C1.
func TestMatchModel(t *testing.T) {
	r := rand.New(rand.NewPCG(1, 2))
	in := 0
	for range 3000 {
		e := randomExpr(r, 4)
		for _, s := range texts(r) {
			want := modelMatch(e, s)
			if want {
				in++
			}
			if got := auto.Match(e, s); got != want {
				t.Fatalf("Match(%v, %q) = %v", e, s, got)
			}
		}
	}
	if in < 10000 {
		t.Errorf("only %d texts were in their sets", in)
	}
}

// C2.
func TestStatesModel(t *testing.T) {
	r := rand.New(rand.NewPCG(3, 4))
	seen := map[int]int{}
	for range 6000 {
		e := randomExpr(r, 4)
		want, ok := modelStates(e)
		if !ok {
			continue
		}
		seen[want]++
		if n, errno := auto.States(e); n != want || errno != api.OK {
			t.Fatalf("States(%v) = %d, %d, want %d", e, n, errno, want)
		}
	}
	for n := 1; n <= 10; n++ {
		if seen[n] == 0 {
			t.Errorf("no set with %d states was tried", n)
		}
	}
}

// C3.
func TestDifferModel(t *testing.T) {
	r := rand.New(rand.NewPCG(5, 6))
	differ, same := 0, 0
	for range 1500 {
		a := randomExpr(r, 2)
		b := randomExpr(r, 2)
		if r.IntN(2) == 0 {
			b = reordered(r, a)
		}
		text, ok, errno := auto.Differ(a, b)
		if errno != api.OK {
			t.Fatalf("Differ(%v, %v): %d", a, b, errno)
		}
		const most = 4
		want, apart := modelDiffer(a, b, most)
		switch {
		case len(text) > most && ok:
			if apart || modelMatch(a, text) == modelMatch(b, text) {
				t.Fatalf("Differ(%v, %v) = %q, %v", a, b, text, ok)
			}
		case text != want || ok != apart:
			t.Fatalf("Differ(%v, %v) = %q, %v, want %q, %v", a, b, text, ok, want, apart)
		case ok:
			differ++
		default:
			same++
		}
	}
	if differ < 300 || same < 300 {
		t.Errorf("%d sets differed, %d were the same", differ, same)
	}
}

// reordered says most things otherwise, and the same: choices in another order, an again twice, the empty text in a row.
func reordered(r *rand.Rand, e api.Expr) api.Expr {
	out := api.Expr{Op: e.Op, Set: e.Set}
	for _, k := range e.Kids {
		out.Kids = append(out.Kids, reordered(r, k))
	}
	switch e.Op {
	case 3:
		return row(empty(), out)
	case 4, 5:
		r.Shuffle(len(out.Kids), func(i, j int) { out.Kids[i], out.Kids[j] = out.Kids[j], out.Kids[i] })
		return choice(out, out)
	}
	return out
}

// C1 against another program's regular expressions.
func TestMatchRegexp(t *testing.T) {
	r := rand.New(rand.NewPCG(7, 8))
	for range 500 {
		e := randomExpr(r, 3)
		re := regexp.MustCompile(`^(?s:` + pattern(e) + `)$`)
		for _, s := range texts(r)[:5] {
			if got, want := auto.Match(e, s), re.MatchString(s); got != want {
				t.Fatalf("Match(%v, %q) = %v, want %v", e, s, got, want)
			}
		}
	}
}

func pattern(e api.Expr) string {
	var kids []string
	for _, k := range e.Kids {
		kids = append(kids, pattern(k))
	}
	const nothing = `[^\x{0}-\x{10ffff}]`
	switch e.Op {
	case 1:
		return "(?:)"
	case 2:
		if e.Set == "" {
			return nothing
		}
		return "[" + e.Set + "]"
	case 3:
		return "(?:" + strings.Join(kids, "") + ")"
	case 4:
		if len(kids) == 0 {
			return nothing
		}
		return "(?:" + strings.Join(kids, "|") + ")"
	case 5:
		return "(?:" + strings.Join(kids, "|") + ")*"
	}
	return nothing
}
