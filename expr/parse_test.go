package expr_test

import (
	"reflect"
	"slices"
	"strings"
	"testing"

	"sieve/api"
	"sieve/expr"
)

// op makes a Test of a sign, or of a primary that stands alone.
func op(sign string, kids ...api.Test) api.Test { return api.Test{Op: sign, Kids: kids} }

// with makes a Test of a primary and its argument.
func with(primary, text string) api.Test { return api.Test{Op: primary, Text: text} }

// number makes a Test of -size or -time.
func number(primary, text string, num, sign int) api.Test {
	return api.Test{Op: primary, Text: text, Num: num, Sign: sign}
}

func checkTest(t *testing.T, args []string, want api.Test) {
	t.Helper()
	given := slices.Clone(args)
	got, errno, place := expr.Parse(args)
	if !reflect.DeepEqual(got, want) || errno != api.OK || place != 0 {
		t.Errorf("Parse(%q) = %v, %d, %d, want %v", args, got, errno, place, want)
	}
	if !slices.Equal(args, given) {
		t.Errorf("Parse(%q) has changed them to %q", given, args)
	}
}

func checkFault(t *testing.T, args []string, wantErrno api.Errno, wantPlace int) {
	t.Helper()
	got, errno, place := expr.Parse(args)
	if errno != wantErrno || place != wantPlace {
		t.Errorf("Parse(%q) = %d, %d, want %d, %d", args, errno, place, wantErrno, wantPlace)
	}
	if !reflect.DeepEqual(got, api.Test{}) {
		t.Errorf("Parse(%q) answers %v beside an error", args, got)
	}
}

func alone() []string {
	return []string{"-true", "-false", "-empty", "-prune", "-print", "-print0", "-quit", "-ignored"}
}

// takers has an argument that is as told for each primary with one.
func takers() map[string]string {
	return map[string]string{"-name": "*.c", "-iname": "[a-z]", "-path": "/a/*", "-regex": "(a|b)+", "-type": "l", "-size": "0", "-time": "0"}
}

// H1: without arguments.
func TestNoArguments(t *testing.T) {
	checkTest(t, nil, op("-true"))
	checkTest(t, []string{}, op("-true"))
}

// H1, H2: each primary alone, with another one behind it, and without its argument.
func TestPrimaries(t *testing.T) {
	for _, primary := range alone() {
		checkTest(t, []string{primary}, op(primary))
		checkTest(t, []string{primary, "-true"}, op("-a", op(primary), op("-true")))
		checkFault(t, []string{primary, "a"}, api.ErrText, 1)
		checkFault(t, []string{primary, ""}, api.ErrText, 1)
	}
	for primary, text := range takers() {
		checkTest(t, []string{primary, text}, with(primary, text))
		checkTest(t, []string{primary, text, "-true"}, op("-a", with(primary, text), op("-true")))
		checkFault(t, []string{primary}, api.ErrText, 1)
		checkFault(t, []string{"-true", primary}, api.ErrText, 2)
		checkFault(t, []string{"(", primary}, api.ErrText, 2)
		checkFault(t, []string{"!", primary}, api.ErrText, 2)
		checkFault(t, []string{primary, text, text}, api.ErrText, 2)
	}
}

// H1: what is no primary and no sign.
func TestWhatCannotStandThere(t *testing.T) {
	for _, other := range []string{
		"", " ", "a", "/", "-", "--", "-foo", "true", "name", "-True", "-TRUE", "-true ", " -true", "-tru", "-truee", "-true\x00",
		"-print00", "-print1", "-and", "-or", "-not", "-A", "-O", "-oo", "!!", "! ", "((", "()", ",,", "-L", "-P", "-depth", "-mindepth", "-maxdepth",
		"-inname", "-ipath", "-iregex", "-mtime", "-Name", "+", "+1", "-1", "\xff", "-e", "{", "}", "[", "]", "\\(", strings.Repeat("-true", 10000),
	} {
		checkFault(t, []string{other}, api.ErrText, 0)
		checkFault(t, []string{"-true", other}, api.ErrText, 1)
		checkFault(t, []string{"-true", "-o", other, "-true"}, api.ErrText, 2)
		checkFault(t, []string{"!", other}, api.ErrText, 1)
		checkFault(t, []string{"(", other}, api.ErrText, 1)
		checkFault(t, []string{"(", "-true", other, ")"}, api.ErrText, 2)
		checkFault(t, []string{"(", "-true", ")", other}, api.ErrText, 3)
	}
}

// H1, H2: what stands behind -name and its like is an argument, whatever it looks like.
func TestArgumentsThatLookLikeOthers(t *testing.T) {
	looks := append(alone(), "!", "(", ")", ",", "-a", "-o", "-name", "-regex", "-type", "-size", "-time", "-foo", "", "-", " ", "\x00", "\xff")
	for _, text := range looks {
		for _, primary := range []string{"-name", "-iname", "-path"} {
			checkTest(t, []string{primary, text}, with(primary, text))
			checkTest(t, []string{"!", primary, text, "-o", "-true"}, op("-o", op("!", with(primary, text)), op("-true")))
			checkFault(t, []string{primary, text, primary}, api.ErrText, 3)
		}
		for _, primary := range []string{"-type", "-size", "-time"} {
			checkFault(t, []string{primary, text}, api.ErrKind, 1)
			checkFault(t, []string{primary, text, "-true"}, api.ErrKind, 1)
		}
	}
	for _, text := range append(alone(), ",", "-a", "-o", "!", "-name", "-regex") {
		checkTest(t, []string{"-regex", text, "-false"}, op("-a", with("-regex", text), op("-false")))
	}
	for _, text := range []string{"(", ")", ""} {
		checkFault(t, []string{"-regex", text, "-false"}, api.ErrKind, 1)
	}
}

// H1: patterns as chapter 4 takes them, and others.
func TestPatterns(t *testing.T) {
	for _, primary := range []string{"-name", "-iname", "-path"} {
		for _, text := range []string{
			"", "*", "?", "a*b", `\*`, "[", "[]", "[a", "[]a]", "[!a]", "[^a]", "[z-a]", "[[:alpha:]]", "[[:upper:]x]", "/", "a/b", "**", "[/]", "]", "{a,b}", "[[:]", "[[:X:]]",
			`\a`, strings.Repeat("a", 200), strings.Repeat("*", 200), "[" + strings.Repeat("a", 198) + "]",
		} {
			checkTest(t, []string{primary, text}, with(primary, text))
		}
		for _, text := range []string{
			"[[:x:]]", "[[:alphas:]]", "a[[:nope:]]b", "[!a[:x:]]", `\`, `a\`, `\\\`, strings.Repeat("a", 201), strings.Repeat("*", 201), strings.Repeat("a", 300000),
		} {
			checkFault(t, []string{primary, text}, api.ErrKind, 1)
			checkFault(t, []string{"-true", "-o", primary, text, "-foo"}, api.ErrKind, 3)
		}
	}
}

// H1: expressions as chapter 6 takes them, and others.
func TestExpressions(t *testing.T) {
	for _, text := range []string{
		"a", "a|b", "(a|b)", "a*", "a+?", "a{2}", "a{2,}", "a{2,3}", "a{255}", "a{0}", ".*", "[a-c]", "[^a]", `[\]`, `\.`, `\/`, "/a/.*", "]", "}", ",",
		strings.Repeat("(", 20) + "a" + strings.Repeat(")", 20), "(a{40}){25}", strings.Repeat("a", 200),
	} {
		checkTest(t, []string{"-regex", text}, with("-regex", text))
	}
	for _, text := range []string{
		"", "(", ")", "()", "(a", "a)", "|", "a|", "|a", "*", "+a", "?", "{2}", "a{", "a{}", "a{2", "a{2,", "a{1234}", "^a", "a$", "[", "[a", "[[:x:]]", `\`, `\a`,
		"a{256}", "a{3,2}", strings.Repeat("(", 21) + "a" + strings.Repeat(")", 21), "(a{40}){26}", strings.Repeat("a", 201), strings.Repeat("a", 300000),
	} {
		checkFault(t, []string{"-regex", text}, api.ErrKind, 1)
		checkFault(t, []string{"!", "-regex", text, ")"}, api.ErrKind, 2)
	}
}

// H1: -type.
func TestTypes(t *testing.T) {
	for _, text := range []string{"d", "f", "l"} {
		checkTest(t, []string{"-type", text}, with("-type", text))
	}
	for _, text := range []string{"", "x", "t", "D", "F", "L", "dd", "df", "d,f", "d ", " d", "-d", "+f", "0", "d\x00", "-type", "*"} {
		checkFault(t, []string{"-type", text}, api.ErrKind, 1)
	}
}

// H1, H2: -size.
func TestSizes(t *testing.T) {
	for _, c := range []struct {
		text string
		num  int
	}{
		{"0", 0}, {"1", 512}, {"3", 1536}, {"1c", 1}, {"0c", 0}, {"12k", 12288}, {"1k", 1024}, {"2M", 2 << 20}, {"1G", 1 << 30}, {"007c", 7},
		{"123456789", 123456789 * 512}, {"999999999c", 999999999}, {"999999999G", 999999999 << 30}, {"000000000", 0},
	} {
		checkTest(t, []string{"-size", c.text}, number("-size", c.text, c.num, 0))
		checkTest(t, []string{"-size", "+" + c.text}, number("-size", "+"+c.text, c.num, 1))
		checkTest(t, []string{"-size", "-" + c.text}, number("-size", "-"+c.text, c.num, -1))
	}
	for _, text := range []string{"", "c", "k", "G", "x", "1x", "1kk", "1K", "1m", "1g", "k1", " 1", "1 ", "1.5", "0x1", "1234567890", "0000000000", "1234567890c", "*1", "1+", "1-", "1c+", "é"} {
		for _, sign := range []string{"", "+", "-"} {
			checkFault(t, []string{"-size", sign + text}, api.ErrKind, 1)
		}
	}
	for _, signs := range []string{"++", "+-", "-+", "--"} {
		checkFault(t, []string{"-size", signs + "1"}, api.ErrKind, 1)
		checkFault(t, []string{"-size", signs}, api.ErrKind, 1)
	}
}

// H1, H2: -time.
func TestTimes(t *testing.T) {
	for _, c := range []struct {
		text string
		num  int
	}{{"0", 0}, {"5", 5}, {"12", 12}, {"123", 123}, {"1234", 1234}, {"12345", 12345}, {"123456", 123456}, {"1234567", 1234567}, {"12345678", 12345678}, {"999999999", 999999999}, {"000000007", 7}} {
		checkTest(t, []string{"-time", c.text}, number("-time", c.text, c.num, 0))
		checkTest(t, []string{"-time", "+" + c.text}, number("-time", "+"+c.text, c.num, 1))
		checkTest(t, []string{"-time", "-" + c.text}, number("-time", "-"+c.text, c.num, -1))
	}
	for _, text := range []string{"", "x", "5x", "x5", "5c", "5k", " 5", "5 ", "1.5", "1000000000", "0000000000", "1+", "1-", "5\n", "٣"} {
		for _, sign := range []string{"", "+", "-"} {
			checkFault(t, []string{"-time", sign + text}, api.ErrKind, 1)
		}
	}
	for _, signs := range []string{"++", "+-", "-+", "--"} {
		checkFault(t, []string{"-time", signs + "1"}, api.ErrKind, 1)
	}
}

// H2: how the signs bind, and that of several the first two come first.
func TestSigns(t *testing.T) {
	a, b, c, d := op("-true"), op("-false"), op("-empty"), op("-prune")
	not := func(x api.Test) api.Test { return op("!", x) }
	for _, w := range []struct {
		args string
		want api.Test
	}{
		{"-true , -false", op(",", a, b)},
		{"-true -o -false", op("-o", a, b)},
		{"-true -a -false", op("-a", a, b)},
		{"-true -false", op("-a", a, b)},
		{"-true , -false , -empty", op(",", op(",", a, b), c)},
		{"-true -o -false -o -empty", op("-o", op("-o", a, b), c)},
		{"-true -a -false -a -empty", op("-a", op("-a", a, b), c)},
		{"-true -false -empty", op("-a", op("-a", a, b), c)},
		{"-true -a -false -empty", op("-a", op("-a", a, b), c)},
		{"-true -false -a -empty", op("-a", op("-a", a, b), c)},
		{"-true , -false , -empty , -prune", op(",", op(",", op(",", a, b), c), d)},
		{"-true -o -false -o -empty -o -prune", op("-o", op("-o", op("-o", a, b), c), d)},
		{"-true -false -empty -prune", op("-a", op("-a", op("-a", a, b), c), d)},
		{"-true , -false -o -empty", op(",", a, op("-o", b, c))},
		{"-true -o -false , -empty", op(",", op("-o", a, b), c)},
		{"-true -o -false -a -empty", op("-o", a, op("-a", b, c))},
		{"-true -a -false -o -empty", op("-o", op("-a", a, b), c)},
		{"-true -o -false -empty", op("-o", a, op("-a", b, c))},
		{"-true -false -o -empty", op("-o", op("-a", a, b), c)},
		{"-true , -false -empty", op(",", a, op("-a", b, c))},
		{"-true -false , -empty", op(",", op("-a", a, b), c)},
		{"-true -false -o -empty -prune", op("-o", op("-a", a, b), op("-a", c, d))},
		{"-true -o -false , -empty -o -prune", op(",", op("-o", a, b), op("-o", c, d))},
		{"-true , -false -o -empty -prune", op(",", a, op("-o", b, op("-a", c, d)))},
		{"-true -false -o -empty , -prune", op(",", op("-o", op("-a", a, b), c), d)},
		{"! -true", not(a)},
		{"! ! -true", not(not(a))},
		{"! ! ! -true", not(not(not(a)))},
		{"! -true -false", op("-a", not(a), b)},
		{"! -true -a -false", op("-a", not(a), b)},
		{"! -true -o -false", op("-o", not(a), b)},
		{"! -true , -false", op(",", not(a), b)},
		{"-true ! -false", op("-a", a, not(b))},
		{"-true -a ! -false", op("-a", a, not(b))},
		{"-true -o ! -false", op("-o", a, not(b))},
		{"-true , ! -false", op(",", a, not(b))},
		{"! -true ! -false", op("-a", not(a), not(b))},
		{"! ( -true )", not(a)},
		{"! ( -true -o -false )", not(op("-o", a, b))},
		{"! ( -true ) -o -false", op("-o", not(a), b)},
		{"! ( ! -true )", not(not(a))},
		{"! ! ( -true -false )", not(not(op("-a", a, b)))},
		{"( -true )", a},
		{"( ( -true ) )", a},
		{"( -true ) ( -false )", op("-a", a, b)},
		{"( -true ) -false", op("-a", a, b)},
		{"-true ( -false )", op("-a", a, b)},
		{"( -true -o -false ) -empty", op("-a", op("-o", a, b), c)},
		{"-true ( -false -o -empty )", op("-a", a, op("-o", b, c))},
		{"-true -a ( -false -a -empty )", op("-a", a, op("-a", b, c))},
		{"( -true -a -false ) -a -empty", op("-a", op("-a", a, b), c)},
		{"-true , ( -false , -empty )", op(",", a, op(",", b, c))},
		{"-true -o ( -false , -empty )", op("-o", a, op(",", b, c))},
		{"( -true , -false ) -o -empty", op("-o", op(",", a, b), c)},
		{"( -true , -false -o ! -empty -prune )", op(",", a, op("-o", b, op("-a", not(c), d)))},
		{"! -type d -size -3", op("-a", not(with("-type", "d")), number("-size", "-3", 1536, -1))},
	} {
		checkTest(t, strings.Fields(w.args), w.want)
	}
}

// H1: signs that cannot stand where they do, and arguments that end too early.
func TestMisplaced(t *testing.T) {
	for _, c := range []struct {
		args  string
		place int
	}{
		{"-a", 0}, {"-o", 0}, {",", 0}, {")", 0}, {"!", 1}, {"(", 1},
		{"-true -a", 2}, {"-true -o", 2}, {"-true ,", 2}, {"-true !", 2}, {"-true (", 2}, {"-true )", 1},
		{"-a -true", 0}, {"-o -true", 0}, {", -true", 0}, {") -true", 0},
		{"! !", 2}, {"! (", 2}, {"( !", 2}, {"( (", 2}, {"! )", 1}, {"! -a", 1}, {"! -o", 1}, {"! ,", 1},
		{"( )", 1}, {"( -a", 1}, {"( -o", 1}, {"( ,", 1}, {"( ) -true", 1}, {"-true ( )", 2}, {"( ( ) )", 2},
		{"( -true", 2}, {"( ( -true )", 4}, {"( -true ) )", 3}, {"( -true -o )", 3}, {"( -true -a )", 3}, {"( -true , )", 3}, {"( -true ! )", 3},
		{"( -true -o", 3}, {"( -true ,", 3}, {"( -true -a", 3}, {"! ( -true", 3},
		{"-true -a -a -true", 2}, {"-true -a -o -true", 2}, {"-true -o -a -true", 2}, {"-true -o -o -true", 2}, {"-true , , -true", 2}, {"-true , -o -true", 2}, {"-true -o , -true", 2},
		{"-true ! -a -false", 2}, {"-true -false -o", 3}, {"-true -false )", 2}, {"-true -o -false )", 3}, {"-true , -false )", 3},
		{") (", 0}, {"-true ) (", 1}, {"-true ) ( -true", 1},
	} {
		checkFault(t, strings.Fields(c.args), api.ErrText, c.place)
	}
}

// H1: of several faults the first one from the left is told.
func TestFirstFault(t *testing.T) {
	for _, c := range []struct {
		args  string
		errno api.Errno
		place int
	}{
		{"-type x -foo", api.ErrKind, 1},
		{"-foo -type x", api.ErrText, 0},
		{"-true ) -type x", api.ErrText, 1},
		{"-type x )", api.ErrKind, 1},
		{"( -type x", api.ErrKind, 2},
		{"-size x -time x", api.ErrKind, 1},
		{"-size 1 -time x -type", api.ErrKind, 3},
		{"-type d -type", api.ErrText, 3},
		{"-true -o -regex ( -name", api.ErrKind, 3},
		{strings.Repeat("( ", 21) + "-foo", api.ErrDeep, 20},
		{strings.Repeat("( ", 20) + "-foo " + strings.Repeat("( ", 5), api.ErrText, 20},
		{strings.Repeat("! ", 20) + "-type ! !", api.ErrKind, 21},
		{strings.Repeat("! ", 21) + "-type x", api.ErrDeep, 20},
		{"-type x " + strings.Repeat("! ", 21) + "-true", api.ErrKind, 1},
	} {
		checkFault(t, strings.Fields(c.args), c.errno, c.place)
	}
}

// H1: a `(` or `!` within MaxDeep others.
func TestDeep(t *testing.T) {
	for _, signs := range []string{"(", "!", "(!", "!(", "((!", "!!("} {
		for deep := 1; deep <= 25; deep++ {
			opening := strings.Repeat(signs, 25)[:deep]
			args := strings.Split(opening, "")
			want := op("-true")
			for range strings.Count(opening, "!") {
				want = op("!", want)
			}
			args = append(args, "-true")
			for range strings.Count(opening, "(") {
				args = append(args, ")")
			}
			if deep <= 20 {
				checkTest(t, args, want)
				checkTest(t, append(args, args...), op("-a", want, want))
				checkTest(t, append(append(args, ","), args...), op(",", want, want))
				checkFault(t, args[:deep], api.ErrText, deep)
			} else {
				checkFault(t, args, api.ErrDeep, 20)
				checkFault(t, args[:deep], api.ErrDeep, 20)
			}
		}
	}
}

// H1: what has been closed, or has its Kid, is not around what stands behind it.
func TestDeepAgain(t *testing.T) {
	checkTest(t, strings.Fields(strings.Repeat("! -true ", 50)), inARow(50, op("!", op("-true"))))
	checkTest(t, strings.Fields(strings.Repeat("( -true ) ", 33)), inARow(33, op("-true")))
	checkTest(t, strings.Fields(strings.Repeat("! ( -true ) ", 25)), inARow(25, op("!", op("-true"))))

	ahead := strings.Repeat("( ", 19) + "! -true "
	checkFault(t, strings.Fields(ahead+"( ! -true"), api.ErrDeep, 22)
	checkFault(t, strings.Fields(ahead+"( ( -true"), api.ErrDeep, 22)
	checkFault(t, strings.Fields(ahead+"! ( -true"), api.ErrDeep, 22)
	checkFault(t, strings.Fields(ahead+") ( ! ! -true"), api.ErrDeep, 24)
	checkFault(t, strings.Fields(ahead+") ( ! -true"), api.ErrText, 25)
	checkFault(t, strings.Fields(ahead+"( -true ) ! -true -o ! ( -true"), api.ErrDeep, 28)
	checkFault(t, strings.Fields(ahead+"( -true ) ! -true -o ! -true"), api.ErrText, 29)
}

// inARow joins one Test with itself, the first two first.
func inARow(n int, one api.Test) api.Test {
	out := one
	for range n - 1 {
		out = op("-a", out, one)
	}
	return out
}

// rows has arguments, over and over, up to a number of them.
func rows(n int, args ...string) []string {
	return slices.Repeat(args, n/len(args)+1)[:n]
}

// H1: the argument of number MaxArgs.
func TestMany(t *testing.T) {
	checkTest(t, rows(99, "-true"), inARow(99, op("-true")))
	checkTest(t, rows(100, "-true"), inARow(100, op("-true")))
	checkTest(t, rows(100, "-name", "a"), inARow(50, with("-name", "a")))
	for _, behind := range []string{"-true", ")", "-foo", "", "(", "!", "-a", "-o", ",", "-name"} {
		checkFault(t, append(rows(100, "-true"), behind), api.ErrMany, 100)
		checkFault(t, append(rows(100, "-true", "-o"), behind), api.ErrMany, 100)
		checkFault(t, append(rows(100, "-true", ","), behind), api.ErrMany, 100)
		checkFault(t, append(append(rows(99, "-true"), "!"), behind), api.ErrMany, 100)
		checkFault(t, append(append(rows(99, "-true"), "("), behind), api.ErrMany, 100)
		checkFault(t, append(append([]string{"("}, rows(99, "-true")...), behind), api.ErrMany, 100)
		checkFault(t, append(append(rows(99, "-true"), "-type"), behind), api.ErrMany, 100)
		checkFault(t, append(append(rows(80, "-true"), rows(20, "!")...), behind), api.ErrMany, 100)
		checkFault(t, append(append(rows(80, "-true"), rows(20, "(")...), behind), api.ErrMany, 100)
	}
	checkFault(t, rows(101, "-name", "a"), api.ErrMany, 100)
	checkFault(t, rows(150, "-true"), api.ErrMany, 100)
	checkFault(t, rows(100000, "-true"), api.ErrMany, 100)
	checkFault(t, append(append([]string{"("}, rows(99, "-true")...), ")"), api.ErrMany, 100)
	checkTest(t, append(append([]string{"("}, rows(98, "-true")...), ")"), inARow(98, op("-true")))
}

// H1: faults ahead of the argument of number MaxArgs, and at the end of as many as there may be.
func TestFaultsAheadOfMany(t *testing.T) {
	for _, ahead := range []int{0, 50, 99} {
		for _, other := range []string{"-foo", ")", ""} {
			args := rows(150, "-true")
			args[ahead] = other
			checkFault(t, args, api.ErrText, ahead)
		}
	}
	checkFault(t, append(rows(98, "-true"), "-type", "x", "-true"), api.ErrKind, 99)
	checkFault(t, append(rows(79, "-true"), rows(50, "!")...), api.ErrDeep, 99)
	checkFault(t, append(rows(99, "-true"), "-type"), api.ErrText, 100)
	checkFault(t, append(rows(99, "-true"), "!"), api.ErrText, 100)
	checkFault(t, append(rows(99, "-true"), "("), api.ErrText, 100)
	checkFault(t, rows(100, "-true", "-o"), api.ErrText, 100)
	checkFault(t, append([]string{"("}, rows(99, "-true")...), api.ErrText, 100)
}

// What holds everywhere: no two lists of an answer share memory, and none is kept.
func TestNewMemory(t *testing.T) {
	args := strings.Fields("( -true , -false ) -o ! -empty")
	one, _, _ := expr.Parse(args)
	other, _, _ := expr.Parse(args)
	scribble(one.Kids)
	checkTest(t, args, other)

	for k := range args {
		args[k] = "x"
	}
	want := op("-o", op(",", op("-true"), op("-false")), op("!", op("-empty")))
	if !reflect.DeepEqual(other, want) {
		t.Errorf("Parse keeps its arguments: %v", other)
	}

	kept, _, _ := expr.Parse(strings.Fields("-true -false -empty"))
	scribble(append(kept.Kids[0].Kids, op("-print")))
	if kept.Kids[0].Op != "-a" || kept.Kids[1].Op != "-empty" {
		t.Errorf("lists of one answer share memory: %v", kept)
	}
}

func scribble(kids []api.Test) {
	for k := range kids {
		scribble(kids[k].Kids)
		kids[k] = api.Test{Op: "x"}
	}
}
