package ignore_test

import (
	"math/rand/v2"
	"regexp"
	"slices"
	"strings"
	"testing"

	"sieve/api"
	"sieve/glob"
	"sieve/ignore"
	"sieve/path"
	"sieve/tree"
)

// modelForm has groups for what Not, Fixed, Pattern and Dir are read from.
var modelForm = regexp.MustCompile(`(?s)^(!?)(/?)(.*?)(/?)$`)

// modelRead tells a content's rules in another way: each line as a form with groups.
func modelRead(content string) []api.Rule {
	var out []api.Rule
	for _, line := range strings.Split(content, "\n") {
		line = line[:modelCount(line)]
		m := modelForm.FindStringSubmatch(line)
		r := api.Rule{Not: m[1] != "", Dir: m[4] != "", Fixed: m[2] != "" || strings.Contains(m[3], "/"), Pattern: m[3]}
		if !strings.HasPrefix(line, "#") && r.Pattern != "" && modelTakes(r.Pattern) {
			out = append(out, r)
		}
	}
	return out
}

// modelCount tells how many bytes of a line count: it goes from the left, and takes each `\` and the byte behind it together.
func modelCount(line string) int {
	counts := 0
	for k := 0; k < len(line); k++ {
		if line[k] == ' ' {
			continue
		}
		if line[k] == '\\' && k+1 < len(line) {
			k++
		}
		counts = k + 1
	}
	return counts
}

func modelTakes(pattern string) bool {
	return !slices.ContainsFunc(strings.Split(pattern, "/"), func(part string) bool {
		_, errno, _ := glob.Parse(part, true)
		return errno != api.OK
	})
}

// modelHits makes a regular expression of a rule, and asks it of a directory's path. Its Pattern has letters, `*`, `?` and `/` alone, and at most 200 bytes.
func modelHits(r api.Rule, way string) bool {
	wild := strings.NewReplacer("*", "[^/]*", "?", "[^/]")
	form, names := "/"+wild.Replace(r.Pattern), "/"+path.Base(way)
	if r.Fixed {
		form, names = "", ""
		parts := path.Parts(r.Pattern)
		for k, part := range parts {
			switch {
			case part != "**":
				form += "/" + wild.Replace(part)
			case k > 0 && k == len(parts)-1:
				form += "(/[^/]+)+"
			default:
				form += "(/[^/]+)*"
			}
		}
		for _, name := range path.Parts(way) {
			names += "/" + name
		}
	}
	return regexp.MustCompile("^" + form + "$").MatchString(names)
}

// modelIgnored goes by paths alone, from the root down, and through the rules from the first one on.
func modelIgnored(l []api.Node, k int) bool {
	kinds, contents := map[string]byte{}, map[string]string{}
	for k, n := range l {
		kinds[tree.Way(l, k)], contents[tree.Way(l, k)] = n.Kind, n.Text
	}
	names := strings.Split(tree.Way(l, k), "/")
	for most := range names {
		at := names[:most+1]
		kind := kinds[strings.Join(at, "/")]
		over := false
		for from := range at {
			file := strings.Join(append(slices.Clone(at[:from]), ".ignore"), "/")
			if kinds[file] != 'f' {
				continue
			}
			for _, r := range ignore.Read(contents[file]) {
				if ignore.Hits(r, strings.Join(at[from:], "/"), kind == 'd' || kind == 'x') {
					over = !r.Not
				}
			}
		}
		if over {
			return true
		}
	}
	return false
}

func pick(r *rand.Rand, from []string, most int) string {
	var out strings.Builder
	for range r.IntN(most + 1) {
		out.WriteString(from[r.IntN(len(from))])
	}
	return out.String()
}

// allTexts are all texts of up to a number of bytes of an alphabet.
func allTexts(alphabet string, most int) []string {
	out := []string{""}
	for k := 0; k < len(out); k++ {
		if len(out[k]) < most {
			for i := range len(alphabet) {
				out = append(out, out[k]+alphabet[i:i+1])
			}
		}
	}
	return out
}

// G1: all short contents of the signs that it speaks of.
func TestModelOfRead(t *testing.T) {
	for _, content := range allTexts("a\\ /!#\n", 5) {
		checkRead(t, content, modelRead(content)...)
	}
	r := rand.New(rand.NewPCG(7, 1))
	pieces := []string{"a", `\`, " ", "/", "!", "#", "\n", "**", "[", "]", "[[:nope:]]", "[[:digit:]]", "\xff"}
	for range 20000 {
		content := pick(r, pieces, 14)
		checkRead(t, content, modelRead(content)...)
	}
}

// G2: all short patterns with all short ways, and longer ones at random.
func TestModelOfHits(t *testing.T) {
	ways := allTexts("a/", 4)
	for _, pattern := range allTexts("a*/", 4) {
		for _, way := range ways {
			checkHitsModel(t, pattern, way)
		}
	}
	r := rand.New(rand.NewPCG(7, 2))
	for range 5000 {
		checkHitsModel(t, pick(r, []string{"a/", "b/", "**/", "**/", "*/", "?/", "a*/", "a", "**"}, 7), pick(r, []string{"a/", "b/", "ab/", "a"}, 8))
	}
}

func checkHitsModel(t *testing.T, pattern, way string) {
	t.Helper()
	for _, signs := range []string{"", "d", "f", "!df"} {
		r := rule(signs, pattern)
		want := modelHits(r, way)
		checkHits(t, r, way, false, want && !r.Dir)
		checkHits(t, r, way, true, want)
	}
}

// randomTree has files with rules in many of its directories.
func randomTree(r *rand.Rand) []api.Node {
	names := []string{"a", "b", "c", ".ignore"}
	lines := []string{"a\n", "b\n", "c\n", "!a\n", "!b\n", "!c\n", "/a\n", "!/b\n", "a/\n", "!b/\n", "a/b\n", "!a/c\n", "**/c\n", "!**/a\n", "a/**\n", "!*\n", "*/\n", "/*/c\n"}
	text := ""
	for range 40 {
		way := names[r.IntN(len(names))]
		for range r.IntN(4) {
			way = names[r.IntN(3)] + "/" + way
		}
		line := ""
		switch {
		case path.Base(way) == ".ignore" && r.IntN(8) > 0:
			line = "t\t" + way + "\t1\t" + strings.ReplaceAll(pick(r, lines, 4), "\n", `\n`)
		case r.IntN(3) > 0:
			line = []string{"d\t", "x\t"}[r.IntN(4)/3] + way
		case r.IntN(4) > 0:
			line = "f\t" + way + "\t1\t1"
		default:
			line = "l\t" + way + "\ta"
		}
		if _, errno, _ := tree.Load(text + line + "\n"); errno == api.OK {
			text += line + "\n"
		}
	}
	l, _, _ := tree.Load(text)
	return l
}

// G3: trees at random.
func TestModelOfIgnored(t *testing.T) {
	r := rand.New(rand.NewPCG(7, 3))
	for range 300 {
		l := randomTree(r)
		asker := ignore.Asker(l)
		for range 2 * len(l) {
			k := 1 + r.IntN(len(l)-1)
			want := modelIgnored(l, k)
			if got := asker(k); got != want {
				t.Fatalf("of %q the Asker says %t, want %t, in\n%s", tree.Way(l, k), got, want, tree.Print(l))
			}
		}
		for k := 1; k < len(l); k++ {
			if got, want := ignore.Ignored(l, k), modelIgnored(l, k); got != want {
				t.Fatalf("Ignored(%q) = %t, want %t, in\n%s", tree.Way(l, k), got, want, tree.Print(l))
			}
		}
	}
}

func FuzzRead(f *testing.F) {
	f.Add("a\\ \n!/b/\n#\n**/c", "a/b")
	f.Fuzz(func(t *testing.T, content, way string) {
		checkRead(t, content, modelRead(content)...)
		for _, r := range ignore.Read(content) {
			if ignore.Hits(r, way, false) && (r.Dir || !ignore.Hits(r, way, true)) {
				t.Errorf("Hits(%v, %q) hits a file and may not", r, way)
			}
		}
	})
}
