package brace_test

import (
	"math/rand/v2"
	"regexp"
	"slices"
	"strconv"
	"strings"
	"testing"

	"sieve/api"
	"sieve/brace"
)

// counts tells whether the byte at a place is one of some signs, by the words of E1.
func counts(s string, k int, signs string) bool {
	behind := false
	for i := range k {
		behind = s[i] == '\\' && !behind
	}
	return !behind && strings.Contains(signs, s[k:k+1])
}

func howMany(s string, from, to int, sign string) (n int) {
	for k := from; k < to; k++ {
		if counts(s, k, sign) {
			n++
		}
	}
	return n
}

// modelClose is the place of the `}` that closes the `{` at a place; -1, if there is none.
func modelClose(s string, open int) int {
	for k := open + 1; k < len(s); k++ {
		if counts(s, k, "}") && howMany(s, open+1, k, "{") == howMany(s, open+1, k, "}") {
			return k
		}
	}
	return -1
}

// modelCommas are the places of the commas that stand in no pair.
func modelCommas(s string) (out []int) {
	for k := range len(s) {
		inPair := false
		for open := range k {
			inPair = inPair || counts(s, open, "{") && modelClose(s, open) > k
		}
		if counts(s, k, ",") && !inPair {
			out = append(out, k)
		}
	}
	return out
}

var (
	numberRow = regexp.MustCompile(`^(-?[0-9]{1,6})\.\.(-?[0-9]{1,6})$`)
	letterRow = regexp.MustCompile(`^([A-Za-z])\.\.([A-Za-z])$`)
)

// modelGroup are the texts of a group, or nil; far too many are cut off.
func modelGroup(inner string) (out []string) {
	if commas := modelCommas(inner); len(commas) > 0 {
		from := 0
		for _, k := range append(commas, len(inner)) {
			out = append(out, modelTexts(inner[from:k])...)
			from = k + 1
		}
		return out
	}
	first, last, text := 0, 0, strconv.Itoa
	if row := numberRow.FindStringSubmatch(inner); row != nil {
		first, _ = strconv.Atoi(row[1])
		last, _ = strconv.Atoi(row[2])
	} else if row := letterRow.FindStringSubmatch(inner); row != nil {
		first, last = int(row[1][0]), int(row[2][0])
		text = func(n int) string { return string(rune(n)) }
	} else {
		return nil
	}
	down := first > last
	if down {
		first, last = last, first
	}
	for n := first; n <= last; n++ {
		out = append(out, text(n))
	}
	if down {
		slices.Reverse(out)
	}
	return out
}

// modelTexts are the texts of a text, by the words of E2; more than some thousand are cut off.
func modelTexts(s string) (out []string) {
	for open := range len(s) {
		if !counts(s, open, "{") {
			continue
		}
		end := modelClose(s, open)
		if end < 0 {
			continue
		}
		if group := modelGroup(s[open+1 : end]); group != nil {
			rest := modelTexts(s[end+1:])
			for _, one := range group {
				for _, other := range rest {
					out = append(out, s[:open]+one+other)
				}
			}
			return out[:min(len(out), 5000)]
		}
	}
	return []string{s}
}

func checkModel(t *testing.T, s string) {
	t.Helper()
	want, wantErrno := modelTexts(s), api.OK
	if len(want) > 200 {
		want, wantErrno = nil, api.ErrMany
	}
	if got, errno := brace.Expand(s); !slices.Equal(got, want) || errno != wantErrno {
		t.Fatalf("Expand(%q) = %q %d, want %q %d", s, got, errno, want, wantErrno)
	}
}

// E1, E2: all texts of up to seven bytes of the signs.
func TestModelOfSigns(t *testing.T) {
	texts := []string{""}
	for k := 0; k < len(texts); k++ {
		checkModel(t, texts[k])
		if len(texts[k]) < 7 {
			for _, c := range []string{"{", "}", ",", "\\", "a"} {
				texts = append(texts, texts[k]+c)
			}
		}
	}
}

// E1, E2: texts of groups and of pieces of them, at random.
func TestModelAtRandom(t *testing.T) {
	r := rand.New(rand.NewPCG(5, 2))
	parts := []string{"{", "}", ",", "\\", "..", "a", "b", "1", "-", "{a,b}", "{1..3}", "{c..a}", "{-1..1}", "{,x", "{x,{", "}}", "{1..40}", "{02..1}", "{Z..a}"}
	for range 20000 {
		var s strings.Builder
		for range r.IntN(9) {
			s.WriteString(parts[r.IntN(len(parts))])
		}
		checkModel(t, s.String())
	}
}

func FuzzExpand(f *testing.F) {
	f.Add("a{b,{1..3}}\\{c..a}")
	f.Fuzz(func(t *testing.T, s string) {
		if len(s) > 40 || strings.Count(s, "{") > 6 {
			brace.Expand(s)
			return
		}
		checkModel(t, s)
	})
}
