package walk_test

import (
	"fmt"
	"math/rand/v2"
	"reflect"
	"slices"
	"strings"
	"testing"

	"sieve/api"
	"sieve/ere"
	"sieve/expr"
	"sieve/glob"
	"sieve/ignore"
	"sieve/path"
	"sieve/tree"
	"sieve/walk"
)

// model walks in another way: what is still to be done stands in a list, the next thing at its end, and a Test is gone through anew at each node.
type model struct {
	l      []api.Node
	o      api.Options
	t      api.Test
	todo   []task
	count  int
	quits  bool
	result api.Result
}

// task is a node to be gone to ("go"), to be looked at ("look"), or of which the Kids are to be gone to ("kids").
type task struct {
	what  string
	k     int
	way   string
	above []int
	prune *bool
}

func (m *model) walk(starts []string) (api.Result, api.Errno) {
	for _, start := range starts {
		k, errno := tree.Find(m.l, 0, start, m.o.Follow)
		if errno != api.OK {
			m.note(fmt.Sprintf("%s: %d", start, errno))
			continue
		}
		m.todo = []task{{what: "go", k: k, way: start}}
		for len(m.todo) > 0 {
			next := m.todo[len(m.todo)-1]
			m.todo = m.todo[:len(m.todo)-1]
			m.do(next)
			if m.count > m.o.Most {
				return api.Result{}, api.ErrMany
			}
			if m.quits {
				return m.result, api.OK
			}
		}
	}
	return m.result, api.OK
}

func (m *model) note(line string) {
	m.result.Notes = append(m.result.Notes, line)
	m.result.Status = 1
}

func (m *model) do(a task) {
	switch a.what {
	case "go":
		m.count++
		if m.l[a.k].Kind == 'l' && m.o.Follow {
			if to, errno := tree.Find(m.l, m.l[a.k].Up, m.l[a.k].Text, true); errno == api.OK {
				a.k = to
			}
		}
		a.prune = new(bool)
		look, kids := a, a
		look.what, kids.what = "look", "kids"
		if m.o.Depth {
			m.todo = append(m.todo, look, kids)
		} else {
			m.todo = append(m.todo, kids, look)
		}
	case "look":
		depth := len(a.above)
		if depth >= m.o.Min && depth <= m.o.Max && m.count <= m.o.Most {
			if m.isTrue(m.t, a) && !modelActs(m.t) && !m.quits {
				m.result.Out += a.way + "\n"
			}
		}
	case "kids":
		m.doKids(a)
	}
}

func (m *model) doKids(a task) {
	n := m.l[a.k]
	if n.Kind != 'd' && n.Kind != 'x' || len(a.above) >= m.o.Max || *a.prune {
		return
	}
	if slices.Contains(a.above, a.k) {
		m.note(a.way + ": loop")
		return
	}
	if n.Kind == 'x' {
		m.note(a.way + ": shut")
		return
	}
	for _, kid := range slices.Backward(n.Kids) {
		m.todo = append(m.todo, task{what: "go", k: kid, way: path.Join(a.way, m.l[kid].Name), above: append(slices.Clone(a.above), a.k)})
	}
}

func modelActs(t api.Test) bool {
	return slices.Contains([]string{"-print", "-print0", "-quit"}, t.Op) || slices.ContainsFunc(t.Kids, modelActs)
}

func (m *model) isTrue(t api.Test, a task) bool {
	if m.quits {
		return false
	}
	n := m.l[a.k]
	in, errno := false, api.OK
	switch t.Op {
	case ",":
		m.isTrue(t.Kids[0], a)
		return m.isTrue(t.Kids[1], a)
	case "-o":
		return m.isTrue(t.Kids[0], a) || m.isTrue(t.Kids[1], a)
	case "-a":
		return m.isTrue(t.Kids[0], a) && m.isTrue(t.Kids[1], a)
	case "!":
		return !m.isTrue(t.Kids[0], a)
	case "-true":
		return true
	case "-name":
		in, errno = glob.Match(t.Text, path.Base(a.way), false, false)
	case "-iname":
		in, errno = glob.Match(modelSmall(t.Text), modelSmall(path.Base(a.way)), false, false)
	case "-path":
		in, errno = glob.Match(t.Text, a.way, false, false)
	case "-regex":
		in, errno = ere.Match(t.Text, a.way)
	case "-type":
		in = strings.Contains(map[string]string{"d": "dx", "f": "f", "l": "l"}[t.Text], string(n.Kind))
	case "-size":
		in = n.Kind == 'f' && modelCompare(n.Size, t)
	case "-time":
		in = n.Kind == 'f' && modelCompare(n.Time, t)
	case "-empty":
		in = n.Kind == 'f' && n.Size == 0 || strings.Contains("dx", string(n.Kind)) && len(n.Kids) == 0
	case "-ignored":
		in = ignore.Ignored(m.l, a.k)
	case "-prune":
		*a.prune = true
		return true
	case "-print":
		m.result.Out += a.way + "\n"
		return true
	case "-print0":
		m.result.Out += a.way + "\x00"
		return true
	case "-quit":
		m.quits = true
	}
	return in && errno == api.OK
}

func modelCompare(n int, t api.Test) bool {
	return t.Sign < 0 && n < t.Num || t.Sign == 0 && n == t.Num || t.Sign > 0 && n > t.Num
}

func modelSmall(s string) string {
	for c := byte('A'); c <= 'Z'; c++ {
		s = strings.ReplaceAll(s, string(c), string(c+32))
	}
	return s
}

// checkModel holds Walk against the model, and tells what came of it.
func checkModel(t *testing.T, l []api.Node, starts, args []string, o api.Options) (api.Result, api.Errno) {
	t.Helper()
	test, errno, _ := expr.Parse(args)
	if errno != api.OK {
		t.Fatalf("Parse(%q) = %d", args, errno)
	}
	m := model{l: l, o: o, t: test}
	want, wantErrno := m.walk(starts)
	got, gotErrno := walk.Walk(l, starts, test, o)
	if len(got.Notes) == 0 {
		got.Notes = want.Notes
	}
	if gotErrno != wantErrno || !reflect.DeepEqual(got, want) {
		t.Fatalf("%q %q %+v:\ngot  %+v %d\nwant %+v %d, in\n%s", starts, args, o, got, gotErrno, want, wantErrno, tree.Print(l))
	}
	return got, gotErrno
}

type maker struct{ *rand.Rand }

func (r maker) one(words ...string) string { return words[r.IntN(len(words))] }

// tree has few names, so that links find something.
func (r maker) tree() []api.Node {
	names := strings.Fields("a b c A .ignore Bc")
	text := ""
	for range 5 + r.IntN(25) {
		way := r.one(names...)
		for range r.IntN(4) {
			way = r.one(names[:3]...) + "/" + way
		}
		line := ""
		switch k := r.IntN(20); {
		case path.Base(way) == ".ignore":
			line = "t\t" + way + "\t1\t" + r.one("a", "*", "b/", "/c", `*\n!a`, "A", "")
		case k < 9:
			line = "d\t" + way
		case k < 11:
			line = "x\t" + way
		case k < 14:
			line = "f\t" + way + "\t" + r.one("0", "1", "511", "512", "513") + "\t" + r.one("0", "1", "2", "3")
		default:
			line = "l\t" + way + "\t" + r.one(".", "..", "/", "../..", "a", "b", "c", "/a", "/b", "../a", "../b/c", "/c/a", "a/b/", "no", "A", "../A")
		}
		if _, errno, _ := tree.Load(text + line + "\n"); errno == api.OK {
			text += line + "\n"
		}
	}
	l, _, _ := tree.Load(text)
	return l
}

func (r maker) primary() []string {
	number := r.one("", "+", "-") + r.one("0", "1", "2", "3")
	switch r.IntN(16) {
	case 0:
		return []string{"-name", r.one("a", "b", "?", "*", "[ab]", ".*", "A", "B?", "/", "[!a]", "")}
	case 1:
		return []string{"-iname", r.one("a", "B", "?", "A*", "[A-B]", "bC", "[[:UPPER:]]", "[[:X:]]", "[[:Alpha:]]")}
	case 2:
		return []string{"-path", r.one("a*", "/*", "*/b", "*a*", "?", "/a/b", "*/*/*", "./*")}
	case 3:
		return []string{"-regex", r.one("a.*", ".*", ".*/b", "(/[a-c])*", "/", ".{1,5}", "[^a]+")}
	case 4:
		return []string{"-type", r.one("d", "f", "l")}
	case 5:
		return []string{"-size", number + r.one("", "c")}
	case 6:
		return []string{"-time", number}
	case 7, 8:
		return []string{"-prune"}
	case 9:
		return []string{"-print"}
	case 10:
		return []string{"-print0"}
	case 11:
		return []string{r.one("-quit", "-true", "-true", "-true")}
	}
	return []string{r.one("-true", "-false", "-empty", "-ignored")}
}

func (r maker) test(deep int) []string {
	if deep == 0 || r.IntN(4) == 0 {
		return r.primary()
	}
	one := append([]string{"("}, append(r.test(deep-1), ")")...)
	if r.IntN(4) == 0 {
		return append([]string{"!"}, one...)
	}
	return append(append(one, r.one("-a", "-o", ",")), r.test(deep-1)...)
}

func (r maker) starts() []string {
	var out []string
	for range 1 + r.IntN(3) {
		out = append(out, r.one("/", "/", "a", "b", "a/b", ".", "./c", "b/", "/a/../b", "no", "", "A", "a//c", "c/.."))
	}
	return out
}

func (r maker) options() api.Options {
	o := api.Options{Follow: r.IntN(2) > 0, Depth: r.IntN(3) == 0, Max: 100, Most: 300}
	switch r.IntN(6) {
	case 0:
		o.Min = r.IntN(4)
	case 1:
		o.Max = r.IntN(5)
	case 2:
		o.Min, o.Max = r.IntN(4), r.IntN(5)
	case 3:
		o.Most = r.IntN(20)
	}
	return o
}

// J1 to J4: trees, Tests, starts and options at random.
func TestModel(t *testing.T) {
	r := maker{rand.New(rand.NewPCG(9, 1))}
	counts := map[string]int{}
	for range 1500 {
		l := r.tree()
		for range 20 {
			result, errno := checkModel(t, l, r.starts(), r.test(r.IntN(4)), r.options())
			counts[fmt.Sprint("error ", int(errno))]++
			for _, note := range result.Notes {
				counts[note[strings.LastIndex(note, " ")+1:]]++
			}
			if strings.Count(result.Out, "\n") > 10 {
				counts["long"]++
			}
		}
	}
	for _, what := range []string{"error 0", "error 4", "loop", "shut", "6", "7", "9", "long"} {
		if counts[what] < 200 {
			t.Errorf("%s: only %d times", what, counts[what])
		}
	}
}

func FuzzWalk(f *testing.F) {
	f.Add("d\ta\nl\ta/b\t..\nx\ta/c\nf\td\t1\t2\n", "/ a", "-name a -o -print", true, false, 0, 9, 100)
	f.Add("l\ta\ta\nd\tb\nl\tb/c\t../b\n", "b a", "-prune , -quit", false, true, 1, 2, 3)
	f.Fuzz(func(t *testing.T, text, starts, args string, follow, depth bool, low, high, most int) {
		l, errno, _ := tree.Load(text)
		if errno != api.OK {
			return
		}
		if _, errno, _ := expr.Parse(strings.Fields(args)); errno != api.OK {
			return
		}
		o := api.Options{Follow: follow, Depth: depth, Min: low, Max: high, Most: most}
		if low < 0 || high < 0 || most < 0 || most > 100000 {
			checkFault(t, l, strings.Fields(starts), args, o, api.ErrRange)
			return
		}
		o.Most = min(o.Most, 500)
		checkModel(t, l, strings.Split(starts, " "), strings.Fields(args), o)
	})
}
