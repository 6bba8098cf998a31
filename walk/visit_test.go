package walk_test

import (
	"math"
	"strings"
	"testing"

	"sieve/api"
	"sieve/walk"
)

const (
	all        = "/ /a /a/e /a/f /a/ld /a/lf /a/ll /a/ln /a/lr /a/lu /a/s /a/t /b /b/g /b/la /s"
	allUpwards = "/a/e /a/f /a/ld /a/lf /a/ll /a/ln /a/lr /a/lu /a/s /a/t /a /b/g /b/la /b /s /"
	allShut    = "/a/s: shut;/s: shut"
)

// J2: without Follow; links are what they are, and lead nowhere.
func TestPlain(t *testing.T) {
	checkAll(t, []asked{
		{"", "", far(), all, allShut},
		{"", "", depthFirst(), allUpwards, allShut},
		{"a", "", far(), "a a/e a/f a/ld a/lf a/ll a/ln a/lr a/lu a/s a/t", "a/s: shut"},
		{"b", "", depthFirst(), "b/g b/la b", ""},
		{"a/s", "", depthFirst(), "a/s", "a/s: shut"},
	})
}

// J2: Kids go by their names, rising byte by byte, whatever their lines' order.
func TestOrder(t *testing.T) {
	l := load(t, "d b\nf b/z 1 1\nf B 1 1\nd b/-\nf b.c 1 1\nf b/-/q 1 1\nf \xff 1 1\nf b/a 1 1\nf ~ 1 1\n")
	asked{"", "", far(), "/ /B /b /b/- /b/-/q /b/a /b/z /b.c /~ /\xff", ""}.check(t, l)
	asked{"", "", depthFirst(), "/B /b/-/q /b/- /b/a /b/z /b /b.c /~ /\xff /", ""}.check(t, l)
}

// J2: with Follow: links to a file, to a directory beside, to a link, to nothing, to nodes above, at the end of the way or on it.
func TestFollow(t *testing.T) {
	down := "/ /a /a/e /a/f /a/ld /a/ld/g /a/ld/la /a/lf /a/ll /a/ln /a/lr /a/lu /a/s /a/t /b /b/g /b/la /b/la/e /b/la/f /b/la/ld /b/la/lf /b/la/ll /b/la/ln /b/la/lr /b/la/lu /b/la/s /b/la/t /s"
	up := "/a/e /a/f /a/ld/g /a/ld/la /a/ld /a/lf /a/ll /a/ln /a/lr /a/lu /a/s /a/t /a /b/g /b/la/e /b/la/f /b/la/ld /b/la/lf /b/la/ll /b/la/ln /b/la/lr /b/la/lu /b/la/s /b/la/t /b/la /b /s /"
	notes := "/a/ld/la: loop;/a/lr: loop;/a/lu: loop;/a/s: shut;/b/la/ld: loop;/b/la/lr: loop;/b/la/lu: loop;/b/la/s: shut;/s: shut"
	upwards := following()
	upwards.Depth = true
	checkAll(t, []asked{
		{"", "", following(), down, notes},
		{"", "", upwards, up, notes},
		{"", "-type l", following(), "/a/ln /b/la/ln", notes},
		{"", "-type f -name l*", following(), "/a/lf /a/ll /b/la/lf /b/la/ll", notes},
		{"a/lr", "-false", following(), "", "a/lr/a/ld/la: loop;a/lr/a/lr: loop;a/lr/a/lu: loop;a/lr/a/s: shut;a/lr/b/la/ld: loop;a/lr/b/la/lr: loop;a/lr/b/la/lu: loop;a/lr/b/la/s: shut;a/lr/s: shut"},
	})
}

// J2: each time, a link's own directory is where its target begins, not the place from which it is gone to.
func TestLinkTargets(t *testing.T) {
	l := load(t, "d a\nd a/b\nl a/b/up ..\nf a/b/f 1 1\nf f 2 2\nl a/b/l f\nl a/b/r /f\nl z a/b\nl y z\n")
	asked{"z", "", following(), "z z/f z/l z/r z/up z/up/b", "z/up/b: loop"}.check(t, l)
	asked{"y", "-size 1c", following(), "y/f y/l", "y/up/b: loop"}.check(t, l)
	asked{"y", "-size 2c", following(), "y/r", "y/up/b: loop"}.check(t, l)
	asked{"a", "", following(), "a a/b a/b/f a/b/l a/b/r a/b/up", "a/b/up: loop"}.check(t, l)
	asked{"y z", "", far(), "y z", ""}.check(t, l)
}

// J2: links to what cannot be read, from beside and from within it: it is shut, as what leads to no Kids is above none.
func TestLinksToShut(t *testing.T) {
	l := load(t, "x s\nl s/me .\nf s/f 1 1\nd d\nl d/s ../s\nl l s\n")
	asked{"", "", following(), "/ /d /d/s /l /s", "/d/s: shut;/l: shut;/s: shut"}.check(t, l)
	asked{"s/me", "", following(), "s/me", "s/me: shut"}.check(t, l)
	asked{"s/me s/f", "", far(), "s/me s/f", ""}.check(t, l)
	asked{"s/me/ s/me/me/f", "", far(), "s/me/ s/me/me/f", "s/me/: shut"}.check(t, l)
	asked{"", "", far(), "/ /d /d/s /l /s", "/s: shut"}.check(t, l)
}

// J2: a node is above only what it leads to: gone to again from beside it is no loop.
func TestAboveEnds(t *testing.T) {
	l := load(t, "d a\nf a/f 1 1\nl b a\nl c a\nd d\nl d/a ../a\nl d/d ../d\n")
	asked{"", "", following(), "/ /a /a/f /b /b/f /c /c/f /d /d/a /d/a/f /d/d", "/d/d: loop"}.check(t, l)
	asked{"a a d/a", "", following(), "a a/f a a/f d/a d/a/f", ""}.check(t, l)
	asked{"d d", "-name d", following(), "d d/d d d/d", "d/d: loop;d/d: loop"}.check(t, l)
}

// J2: many links: 40 behind the one that is gone to are followed, with one more it stays a link. A start counts itself.
func TestManyLinks(t *testing.T) {
	text := "f end 1 1\n"
	name := "end"
	for range 42 {
		text += "l x" + name + " " + name + "\n"
		name = "x" + name
	}
	l := load(t, text)
	x := func(n int) string { return strings.Repeat("x", n) + "end" }
	asked{"", "-type l", following(), "/" + x(42), ""}.check(t, l)
	asked{x(40), "-type f", following(), x(40), ""}.check(t, l)
	asked{x(41), "", following(), "", x(41) + ": 9"}.check(t, l)
	asked{x(41), "", far(), x(41), ""}.check(t, l)
}

// J2: Min and Max, below, at and above the depths that there are, and Min above Max.
func TestDepths(t *testing.T) {
	one := "/a /b /s"
	two := "/a/e /a/f /a/ld /a/lf /a/ll /a/ln /a/lr /a/lu /a/s /a/t /b/g /b/la"
	checkAll(t, []asked{
		{"", "", depths(0, 0), "/", ""},
		{"", "", depths(0, 1), "/ " + one, ""},
		{"", "", depths(1, 1), one, ""},
		{"", "", depths(0, 2), all, "/s: shut"},
		{"", "", depths(0, 3), all, allShut},
		{"", "", depths(0, math.MaxInt), all, allShut},
		{"", "", depths(2, 2), two, "/s: shut"},
		{"", "", depths(2, 9), two, allShut},
		{"", "", depths(3, 9), "", allShut},
		{"", "", depths(math.MaxInt, math.MaxInt), "", allShut},
		{"", "", depths(1, 0), "", ""},
		{"", "", depths(2, 1), "", ""},
		{"", "", depths(3, 2), "", "/s: shut"},
		{"s a/s", "", depths(0, 0), "s a/s", ""},
		{"s a/s", "", depths(0, 1), "s a/s", "s: shut;a/s: shut"},
		{"a/f b", "", depths(1, 9), "b/g b/la", ""},
		{"", "-print -prune", depths(1, 9), one, ""},
		{"", "-quit", depths(3, 9), "", allShut},
	})
	o := depths(1, 2)
	o.Follow = true
	asked{"b", "", o, "b/g b/la b/la/e b/la/f b/la/ld b/la/lf b/la/ll b/la/ln b/la/lr b/la/lu b/la/s b/la/t", ""}.check(t, load(t, forest))
	o.Depth = true
	asked{"b", "", o, "b/g b/la/e b/la/f b/la/ld b/la/lf b/la/ll b/la/ln b/la/lr b/la/lu b/la/s b/la/t b/la", ""}.check(t, load(t, forest))
	o.Max = 3
	asked{"b", "-false", o, "", "b/la/ld: loop;b/la/lu: loop;b/la/s: shut"}.check(t, load(t, forest))
}

// J2: what is pruned leads to no Kids, and to no line of Notes; with Depth it does.
func TestPrune(t *testing.T) {
	upwards := depths(1, 9)
	upwards.Depth = true
	checkAll(t, []asked{
		{"", "-prune", far(), "/", ""},
		{"", "-prune", depthFirst(), allUpwards, allShut},
		{"", "-name a -prune -o -print", far(), "/ /b /b/g /b/la /s", "/s: shut"},
		{"", "-name a -prune -o -print", depthFirst(), strings.ReplaceAll(allUpwards, " /a ", " "), allShut},
		{"", "-name s -prune", far(), "/a/s /s", ""},
		{"", "-name s -prune", depthFirst(), "/a/s /s", allShut},
		{"", "-prune", depths(1, 9), "/a /b /s", ""},
		{"", "-prune", upwards, strings.TrimSuffix(allUpwards, " /"), allShut},
		{"", "-type d ! -name a -prune", depths(1, 9), "/a/e /a/s /b /s", ""},
		{"a a", "-name a -prune", far(), "a a", ""},
		{"", "-path /a -prune -o -name e", far(), "/a", "/s: shut"},
		{"b", "-name la -prune", following(), "b/la", ""},
		{"b", "-name la -prune -false", following(), "", ""},
		{"a/f a/lf", "-prune", far(), "a/f a/lf", ""},
	})
}

// J2: pruned at one time, but not at another, by another path.
func TestPruneOnce(t *testing.T) {
	l := load(t, "d a\nf a/f 1 1\nl b a\nl c a\n")
	asked{"", "-name b -prune -o -true", following(), "/ /a /a/f /b /c /c/f", ""}.check(t, l)
	asked{"a b a", "-name a -prune -o -name f", following(), "a b/f a", ""}.check(t, l)
}

// J2: Most, just met and just past, with and without Depth and Follow.
func TestMost(t *testing.T) {
	l := load(t, forest)
	for _, c := range []struct {
		starts string
		o      api.Options
		count  int
	}{
		{"/", far(), 16}, {"/", depthFirst(), 16}, {"/", following(), 28}, {"/", depths(0, 1), 4}, {"/", depths(3, 1), 4}, {"/", depths(0, 0), 1},
		{"b", far(), 3}, {"a/f", far(), 1}, {"a/f a/f b/g", far(), 3}, {"b b b", far(), 9}, {"s a/s", far(), 2},
		{"no b", far(), 3}, {"b no", far(), 3}, {"no no no", far(), 0}, {"a/ln no b/g", following(), 1}, {"", far(), 0},
	} {
		starts := strings.Fields(c.starts)
		for _, args := range []string{"", "-false", "-print"} {
			c.o.Most = c.count
			if _, errno := walk.Walk(l, starts, parse(t, args), c.o); errno != api.OK {
				t.Errorf("%v with %d: error %d", c.starts, c.count, errno)
			}
			for k := range c.count {
				c.o.Most = k
				checkFault(t, l, starts, args, c.o, api.ErrMany)
			}
		}
	}
}

// J2: Most at its own bound, counted over very many starts, and in links that lead everywhere.
func TestMostOfAll(t *testing.T) {
	l := load(t, forest)
	starts := make([]string, 100001)
	for k := range starts {
		starts[k] = "s"
	}
	r, errno := walk.Walk(l, starts[1:], parse(t, ""), most(100000))
	if errno != api.OK || r.Out != strings.Repeat("s\n", 100000) || len(r.Notes) != 100000 || r.Status != 1 {
		t.Errorf("100000 starts: error %d", errno)
	}
	checkFault(t, l, starts, "", most(100000), api.ErrMany)
	starts[70000] = "no"
	r, errno = walk.Walk(l, starts, parse(t, ""), most(100000))
	if errno != api.OK || len(r.Out) != 200000 || r.Notes[70000] != "no: 6" {
		t.Errorf("100000 starts and one that is not found: error %d", errno)
	}
	text := ""
	for _, c := range "abcdefghij" {
		text += "d " + string(c) + "\n"
	}
	for _, c := range "abcdefghij" {
		for _, d := range "abcdefghij" {
			text += "l " + string(c) + "/" + string(d) + " /" + string(d) + "\n"
		}
	}
	many := following()
	many.Most = 100000
	checkFault(t, load(t, text), []string{"/"}, "", many, api.ErrMany)
}

// J2: -quit ends all at once, whatever is still open; what has been gone to by then counts.
func TestQuit(t *testing.T) {
	checkAll(t, []asked{
		{"", "-quit", far(), "", ""},
		{"", "-quit", depthFirst(), "", ""},
		{"", "-print -quit", far(), "/", ""},
		{"", "-print -quit", depthFirst(), "/a/e", ""},
		{"", "-print -name s -quit", far(), "/ /a /a/e /a/f /a/ld /a/lf /a/ll /a/ln /a/lr /a/lu /a/s", ""},
		{"", "-print -name s -quit", depthFirst(), "/a/e /a/f /a/ld /a/lf /a/ll /a/ln /a/lr /a/lu /a/s", "/a/s: shut"},
		{"", "-print -name b -quit", far(), "/ /a /a/e /a/f /a/ld /a/lf /a/ll /a/ln /a/lr /a/lu /a/s /a/t /b", "/a/s: shut"},
		{"", "-quit -print", far(), "", ""},
		{"a/f b/g no", "-print -quit", far(), "a/f", ""},
		{"no a/f b/g", "-print -quit", far(), "a/f", "no: 6"},
		{"a/f b no", "-name g -quit -o -print", far(), "a/f b", ""},
		{"b", "-print -quit", most(1), "b", ""},
		{"b/g b", "-print -name b -quit", most(2), "b/g b", ""},
	})
	l := load(t, forest)
	checkFault(t, l, []string{"b"}, "-quit", most(0), api.ErrMany)
	checkFault(t, l, []string{"b/g", "b"}, "-name b -quit", most(1), api.ErrMany)
	upwards := most(1)
	upwards.Depth = true
	checkFault(t, l, []string{"b"}, "-quit", upwards, api.ErrMany)
	upwards.Most = 2
	asked{"b", "-quit", upwards, "", ""}.check(t, l)
}
