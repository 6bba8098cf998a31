package expr_test

import (
	"math/rand/v2"
	"reflect"
	"regexp"
	"slices"
	"strconv"
	"strings"
	"testing"

	"sieve/api"
	"sieve/ere"
	"sieve/expr"
	"sieve/glob"
)

// model reads arguments in another way: one after the other, with a list of the signs that still wait for something behind them.
type model struct {
	waiting []string
	done    []api.Test
	deep    int
	wants   bool // a test must come
	primary string
}

func binds(sign string) int {
	return map[string]int{"(": 0, ",": 1, "-o": 2, "-a": 3, "!": 4}[sign]
}

func (m *model) has(sign string) bool {
	return len(m.waiting) > 0 && m.waiting[len(m.waiting)-1] == sign
}

// settle joins what waits and binds at least as strongly.
func (m *model) settle(strength int) {
	for len(m.waiting) > 0 && binds(m.waiting[len(m.waiting)-1]) >= strength {
		sign := m.waiting[len(m.waiting)-1]
		m.waiting = m.waiting[:len(m.waiting)-1]
		count := 2
		if sign == "!" {
			count = 1
			m.deep--
		}
		cut := len(m.done) - count
		m.done = append(m.done[:cut:cut], op(sign, m.done[cut:]...))
	}
}

func (m *model) push(t api.Test) {
	m.done = append(m.done, t)
	m.wants = false
	m.settle(4)
}

// begin makes way for a test that begins where none is wanted.
func (m *model) begin() {
	if !m.wants {
		m.join("-a")
	}
}

func (m *model) join(sign string) {
	m.settle(binds(sign))
	m.waiting = append(m.waiting, sign)
	m.wants = true
}

func isOneOf(word, words string) bool {
	return slices.Contains(strings.Fields(words), word)
}

func (m *model) step(a string) api.Errno {
	takes := isOneOf(a, "-name -iname -path -regex -type -size -time")
	switch {
	case m.primary != "":
		t, ok := modelArgument(m.primary, a)
		if !ok {
			return api.ErrKind
		}
		m.primary = ""
		m.push(t)
	case a == "(" || a == "!":
		if m.deep == 20 {
			return api.ErrDeep
		}
		m.begin()
		m.waiting = append(m.waiting, a)
		m.deep++
		m.wants = true
	case takes:
		m.begin()
		m.primary = a
	case isOneOf(a, "-true -false -empty -prune -print -print0 -quit -ignored"):
		m.begin()
		m.push(op(a))
	case m.wants:
		return api.ErrText
	case a == "," || a == "-o" || a == "-a":
		m.join(a)
	case a == ")":
		m.settle(1)
		if !m.has("(") {
			return api.ErrText
		}
		m.waiting = m.waiting[:len(m.waiting)-1]
		m.deep--
		m.settle(4)
	default:
		return api.ErrText
	}
	return api.OK
}

var (
	sizeForm = regexp.MustCompile(`^([+-]?)([0-9]{1,9})([ckMG]?)$`)
	timeForm = regexp.MustCompile(`^([+-]?)([0-9]{1,9})$`)
)

func modelArgument(primary, text string) (api.Test, bool) {
	t := with(primary, text)
	errno := api.OK
	var m []string
	switch primary {
	case "-name", "-iname", "-path":
		_, errno, _ = glob.Parse(text, true)
		return t, errno == api.OK
	case "-regex":
		_, errno, _ = ere.Parse(text)
		return t, errno == api.OK
	case "-type":
		return t, text == "d" || text == "f" || text == "l"
	case "-size":
		m = sizeForm.FindStringSubmatch(text)
	default:
		m = timeForm.FindStringSubmatch(text)
	}
	if m == nil {
		return t, false
	}
	t.Num, _ = strconv.Atoi(m[2])
	t.Sign = map[string]int{"-": -1, "+": 1}[m[1]]
	if primary == "-size" {
		t.Num *= map[string]int{"": 512, "c": 1, "k": 1 << 10, "M": 1 << 20, "G": 1 << 30}[m[3]]
	}
	return t, true
}

func modelParse(args []string) (api.Test, api.Errno, int) {
	if len(args) == 0 {
		return op("-true"), api.OK, 0
	}
	m := model{wants: true}
	for k, a := range args {
		if k == 100 {
			return api.Test{}, api.ErrMany, 100
		}
		if errno := m.step(a); errno != api.OK {
			return api.Test{}, errno, k
		}
	}
	if m.wants || m.primary != "" {
		return api.Test{}, api.ErrText, len(args)
	}
	m.settle(1)
	if len(m.waiting) > 0 {
		return api.Test{}, api.ErrText, len(args)
	}
	return m.done[0], api.OK, 0
}

// checkModel holds Parse against the model, and Acts against what stands in the arguments.
func checkModel(t *testing.T, args []string) {
	t.Helper()
	want, errno, place := modelParse(args)
	if errno != api.OK {
		checkFault(t, args, errno, place)
		return
	}
	checkTest(t, args, want)
	if acts := modelActs(want); expr.Acts(want) != acts {
		t.Errorf("Acts of %q = %v", args, !acts)
	}
}

func modelActs(t api.Test) bool {
	acts := isOneOf(t.Op, "-print -print0 -quit")
	for _, kid := range t.Kids {
		acts = modelActs(kid) || acts
	}
	return acts
}

// H1, H2: all rows of up to five arguments.
func TestModelOfShortRows(t *testing.T) {
	words := []string{"-true", "-quit", "-type", "d", "!", "(", ")", "-a", "-o", ",", ""}
	rows := [][]string{nil}
	for k := 0; k < len(rows); k++ {
		checkModel(t, rows[k])
		if len(rows[k]) < 5 {
			for _, word := range words {
				rows = append(rows, append(rows[k][:len(rows[k]):len(rows[k])], word))
			}
		}
		rows[k] = nil
	}
}

// H1, H2: all short arguments of -size and -time.
func TestModelOfNumbers(t *testing.T) {
	texts := []string{""}
	for k := 0; k < len(texts); k++ {
		checkModel(t, []string{"-size", texts[k]})
		checkModel(t, []string{"-time", texts[k]})
		if len(texts[k]) < 4 {
			for _, c := range "+-07ckMGx " {
				texts = append(texts, texts[k]+string(c))
			}
		}
	}
}

// H1, H2: long rows that are mostly right.
func TestModelOfLongRows(t *testing.T) {
	r := rand.New(rand.NewPCG(8, 1))
	kinds := map[api.Errno]int{}
	for range 20000 {
		g := grower{r: r, most: 4 + r.IntN(120), wrong: 20 + r.IntN(2000), open: r.IntN(5)}
		args := g.row()
		checkModel(t, args)
		_, errno, _ := modelParse(args)
		kinds[errno]++
	}
	for _, errno := range []api.Errno{api.OK, api.ErrText, api.ErrKind, api.ErrDeep, api.ErrMany} {
		if kinds[errno] < 200 {
			t.Errorf("only %d rows with %d", kinds[errno], errno)
		}
	}
}

// grower makes rows of arguments in which here and there something is wrong.
type grower struct {
	r                 *rand.Rand
	most, wrong, open int
	args              []string
}

func (g *grower) row() []string {
	brackets := 0
	for len(g.args)+brackets < g.most {
		for g.r.IntN(6) < g.open {
			if g.r.IntN(2) == 0 {
				g.add("!")
			} else {
				g.add("(")
				brackets++
			}
		}
		g.test()
		for brackets > 0 && g.r.IntN(4) >= g.open {
			g.add(")")
			brackets--
		}
		if len(g.args)+brackets < g.most {
			g.add([]string{"-a", "-o", ",", ""}[g.r.IntN(4)])
		}
	}
	if n := len(g.args); n > 0 && isOneOf(g.args[n-1], "-a -o ,") {
		g.test()
	}
	for range brackets {
		g.add(")")
	}
	return g.args
}

func (g *grower) test() {
	if g.r.IntN(2) == 0 {
		g.add(alone()[g.r.IntN(8)])
		return
	}
	pairs := []string{"-name", "*.c", "-iname", "-o", "-path", "!", "-regex", "a+", "-type", "f", "-size", "-3k", "-time", "+12", "-size", "9G", "-time", "7"}
	k := 2 * g.r.IntN(len(pairs)/2)
	g.add(pairs[k])
	g.add(pairs[k+1])
}

func (g *grower) add(a string) {
	others := []string{"-true", "-name", "-type", "-size", "(", ")", "!", ",", "-o", "-a", "", "a", "[[:x:]]", "d"}
	if g.r.IntN(g.wrong) == 0 {
		a = others[g.r.IntN(len(others))]
		g.args = append(g.args, a)
		return
	}
	if a != "" {
		g.args = append(g.args, a)
	}
}

// H1 to H3: at random.
func FuzzParse(f *testing.F) {
	for _, seed := range []string{"", "-true", "! ( -true , -print0 )", "-size +1k -o -time -5", "-name [[:x:]]", "( ( ( -type d", "-regex (a|b) -quit"} {
		f.Add(seed)
	}
	f.Fuzz(func(t *testing.T, line string) {
		args := strings.Split(line, " ")
		checkModel(t, args)
		one, _, _ := expr.Parse(args)
		scribble(one.Kids)
		again, _, _ := expr.Parse(args)
		if want, _, _ := modelParse(args); !reflect.DeepEqual(again, want) {
			t.Errorf("Parse(%q) answers memory that it keeps", args)
		}
	})
}
