package auto_test

import (
	"strings"
	"testing"

	"sieve/api"
	"sieve/auto"
)

// lastBut is the texts of a and b with an a ahead of the last n bytes: a least automaton must know the last n+1 bytes.
func lastBut(n int) api.Expr {
	return row(again(one("ab")), one("a"), times(one("ab"), n))
}

func maybe(e api.Expr) api.Expr { return choice(e, empty()) }

// C2: MaxStates, at it and past it.
func TestMaxStates(t *testing.T) {
	all := allBytes()
	for _, c := range []struct {
		name string
		e    api.Expr
		want int
	}{
		{"498 bytes", times(one("a"), 498), 500},
		{"499 bytes", times(one("a"), 499), 0},
		{"500 bytes", times(one("a"), 500), 0},
		{"18000 bytes", times(one("a"), 18000), 0},
		{"up to 498 bytes", times(maybe(one("a")), 498), 500},
		{"up to 499 bytes", times(maybe(one("a")), 499), 0},
		{"up to 2000 bytes", times(maybe(one("a")), 2000), 0},
		{"each 499th", again(times(one("a"), 499)), 500},
		{"each 500th", again(times(one("a"), 500)), 0},
		{"each 500th of all", again(times(one(all), 500)), 500},
		{"each 501st of all", again(times(one(all), 501)), 0},
		{"each 2nd, 3rd, 7th or 11th", choice(again(times(one(all), 2)), again(times(one(all), 3)), again(times(one(all), 7)), again(times(one(all), 11))), 462},
		{"each 2nd, 3rd, 5th or 17th", choice(again(times(one(all), 2)), again(times(one(all), 3)), again(times(one(all), 5)), again(times(one(all), 17))), 0},
		{"last but 7", lastBut(7), 257},
		{"last but 8", lastBut(8), 0},
		{"last but 60", lastBut(60), 0},
		{"last but 490", lastBut(490), 0},
		{"last but 5000", lastBut(5000), 0},
		{"first but 400", row(times(one("ab"), 400), one("a"), again(one("ab"))), 403},
	} {
		n, errno := auto.States(c.e)
		if n != c.want || (errno != api.OK) != (c.want == 0) || (errno != api.OK) != (errno == api.ErrMany) {
			t.Errorf("%s: %d, %d, want %d", c.name, n, errno, c.want)
		}
	}
}

// C2: only texts that are not alike count, however many sets of parts they lead to.
func TestFewAmongMany(t *testing.T) {
	sevens := choice(again(one("a")))
	for _, n := range []int{2, 3, 5, 7, 11, 13} {
		sevens.Kids = append(sevens.Kids, again(times(one("a"), n)))
	}
	for _, c := range []struct {
		name string
		e    api.Expr
		want int
	}{
		{"last but 60, or any", choice(lastBut(60), again(one("ab"))), 2},
		{"last but 700, or any", choice(lastBut(700), again(one("ab"))), 2},
		{"last but 60 of what cannot be", row(lastBut(60), none()), 1},
		{"last but 60 and then any", row(lastBut(60), again(one("ab"))), 63},
		{"each nth, or any", sevens, 2},
		{"six times the same", choice(times(one("ab"), 6).Kids...), 3},
	} {
		if n, errno := auto.States(c.e); n != c.want || errno != api.OK {
			t.Errorf("%s: %d, %d, want %d", c.name, n, errno, c.want)
		}
	}
	if text, differ, errno := auto.Differ(choice(lastBut(60), again(one("ab"))), again(one("a"), one("b"))); text != "" || differ || errno != api.OK {
		t.Errorf("last but 60, or any, and any: %q, %v, %d", text, differ, errno)
	}
}

// C3: ErrMany of one is ErrMany of both, also where a short text tells them apart.
func TestDifferMany(t *testing.T) {
	long, short := times(one("a"), 499), times(one("a"), 498)
	for _, c := range [][2]api.Expr{{long, short}, {short, long}, {long, long}, {long, none()}, {empty(), long}, {lastBut(8), one("a")}} {
		if text, differ, errno := auto.Differ(c[0], c[1]); text != "" || differ || errno != api.ErrMany {
			t.Errorf("%q, %v, %d, want ErrMany", text, differ, errno)
		}
	}
	text, differ, errno := auto.Differ(short, times(one("a"), 497))
	if text != strings.Repeat("a", 497) || !differ || errno != api.OK {
		t.Errorf("497 and 498 bytes: %q, %v, %d", text, differ, errno)
	}
	text, differ, errno = auto.Differ(again(times(one("a"), 499)), again(times(one("a"), 498)))
	if text != strings.Repeat("a", 498) || !differ || errno != api.OK {
		t.Errorf("each 499th and each 498th: %q, %v, %d", text, differ, errno)
	}
}

// Every call ends: sets that are deep, wide or long.
func TestGreat(t *testing.T) {
	const many = 100000
	deep := map[string]api.Expr{"row": one("a"), "choice": one("a"), "again": one("a")}
	for range many {
		deep["row"], deep["choice"], deep["again"] = row(deep["row"]), choice(deep["choice"]), again(deep["again"])
	}
	wide := times(one("a"), many).Kids
	for _, c := range []struct {
		name  string
		e     api.Expr
		s     string
		match bool
		want  int
	}{
		{"deep row", deep["row"], "a", true, 3},
		{"deep choice", deep["choice"], "a", true, 3},
		{"deep again", deep["again"], "aa", true, 2},
		{"wide row", row(wide...), strings.Repeat("a", many), true, 0},
		{"wide choice", choice(wide...), "a", true, 3},
		{"wide again", again(wide...), "aaa", true, 2},
		{"empty texts in a row", times(empty(), many), "", true, 2},
		{"long set", one(strings.Repeat("ab", many)), "b", true, 3},
		{"long text", again(word("ab")), strings.Repeat("ab", many), true, 3},
		{"long text with a bad end", again(word("ab")), strings.Repeat("ab", many) + "a", false, 3},
	} {
		if got := auto.Match(c.e, c.s); got != c.match {
			t.Errorf("%s: Match is %v", c.name, got)
		}
		n, errno := auto.States(c.e)
		if n != c.want || (errno != api.OK) != (c.want == 0) {
			t.Errorf("%s: %d, %d, want %d", c.name, n, errno, c.want)
		}
	}
	// Ways that part again and again must not be tried one by one.
	if auto.Match(times(row(again(one("a")), again(one("a"))), 200), strings.Repeat("a", 500)+"b") {
		t.Error("a text that ends with b is in a set of texts of a")
	}
}
