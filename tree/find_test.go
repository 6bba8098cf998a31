package tree_test

import (
	"fmt"
	"strings"
	"testing"

	"sieve/api"
	"sieve/tree"
)

const places = "d\ta\n" + // 1
	"f\ta/b\t1\t1\n" + // 2
	"d\ta/sub\n" + // 3
	"f\ta/sub/c\t1\t1\n" + // 4
	"l\tln\ta\n" + // 5
	"l\tln2\tln\n" + // 6
	"l\ta/up\t..\n" + // 7
	"l\ta/here\t.\n" + // 8
	"x\tshut\n" + // 9
	"f\tshut/in\t1\t1\n" + // 10
	"l\tbad\tnowhere\n" + // 11
	"l\tme\tme\n" + // 12
	"l\tring1\tring2\n" + // 13
	"l\tring2\tring1\n" + // 14
	"l\ttofile\ta/b\n" + // 15
	"l\ttofile2\ta/b/\n" + // 16
	"l\ta/sub/abs\t/a/sub\n" + // 17
	"l\ta/sub/root\t/\n" + // 18
	"l\ta/sub/side\tc\n" + // 19
	"l\ttodir\tln2/\n" + // 20
	"l\tthrough\ta/b/x\n" + // 21
	"l\ttolink\ta/sub/side\n" + // 22
	"l\tshutln\tshut\n" + // 23
	"f\tc\t1\t1\n" + // 24
	"l\tmid\tln2/up/ln2/sub\n" // 25

type search struct {
	from   int
	s      string
	follow bool
	want   int
	err    api.Errno
}

func checkFinds(t *testing.T, text string, searches []search) {
	t.Helper()
	l := load(t, text)
	for _, c := range searches {
		if got, e := tree.Find(l, c.from, c.s, c.follow); got != c.want || e != c.err {
			t.Errorf("Find(%d, %q, %v) = %d, %d, want %d, %d", c.from, c.s, c.follow, got, e, c.want, c.err)
		}
	}
	if !sameNodes(l, load(t, text)) {
		t.Error("Find has changed the nodes")
	}
}

// both asks with and without follow, where the answer is the same.
func both(from int, s string, want int, err api.Errno) []search {
	return []search{{from, s, false, want, err}, {from, s, true, want, err}}
}

// B3: without links.
func TestFindPlain(t *testing.T) {
	var all []search
	for _, c := range []search{
		{0, "a", false, 1, 0}, {0, "/a", false, 1, 0}, {0, "a/", false, 1, 0}, {0, "//a//", false, 1, 0},
		{0, "a/b", false, 2, 0}, {0, "a//b", false, 2, 0}, {0, "/a/sub/c", false, 4, 0},
		{1, "b", false, 2, 0}, {1, "sub/c", false, 4, 0}, {3, "c", false, 4, 0}, {0, "c", false, 24, 0},
		{3, "/c", false, 24, 0}, {3, "../../c", false, 24, 0},
		{0, ".", false, 0, 0}, {0, "..", false, 0, 0}, {0, "/", false, 0, 0}, {0, "//", false, 0, 0}, {0, "/..", false, 0, 0},
		{0, "./", false, 0, 0}, {0, "../", false, 0, 0}, {0, "../../..", false, 0, 0},
		{3, ".", false, 3, 0}, {3, "..", false, 1, 0}, {3, "../..", false, 0, 0}, {3, "../../..", false, 0, 0}, {3, "/", false, 0, 0},
		{0, "a/./sub/../b", false, 2, 0}, {0, "a/..", false, 0, 0}, {0, "a/../", false, 0, 0},
		{0, "shut", false, 9, 0}, {0, "shut/", false, 9, 0}, {0, "shut/in", false, 10, 0}, {9, "in", false, 10, 0}, {0, "shut/../a", false, 1, 0},
		{0, "no", false, 0, api.ErrNone}, {0, "no/x", false, 0, api.ErrNone}, {0, "no/", false, 0, api.ErrNone}, {0, "a/no", false, 0, api.ErrNone},
		{0, "A", false, 0, api.ErrNone}, {0, "a/su", false, 0, api.ErrNone}, {0, "...", false, 0, api.ErrNone}, {0, "\x00", false, 0, api.ErrNone},
		{0, "no/..", false, 0, api.ErrNone},
		{0, "a/b/", false, 0, api.ErrKind}, {0, "a/b/x", false, 0, api.ErrKind}, {0, "a/b/.", false, 0, api.ErrKind},
		{0, "a/b/..", false, 0, api.ErrKind}, {0, "a/b/../b", false, 0, api.ErrKind}, {0, "c/no", false, 0, api.ErrKind},
		{2, "x", false, 0, api.ErrKind}, {2, ".", false, 0, api.ErrKind}, {2, "..", false, 0, api.ErrKind}, {2, "/a", false, 1, 0}, {2, "/", false, 0, 0},
		{0, "", false, 0, api.ErrNone}, {2, "", false, 0, api.ErrNone}, {99, "", false, 0, api.ErrNone},
		{-1, "a", false, 0, api.ErrNone}, {26, "a", false, 0, api.ErrNone}, {-1, "/a", false, 0, api.ErrNone}, {26, "/", false, 0, api.ErrNone},
		{-1 << 63, ".", false, 0, api.ErrNone}, {1<<63 - 1, "/", false, 0, api.ErrNone},
	} {
		all = append(all, both(c.from, c.s, c.want, c.err)...)
	}
	checkFinds(t, places, all)
}

// B3: links at the end, and with a part or a / behind them.
func TestFindLinks(t *testing.T) {
	all := []search{
		{0, "ln", false, 5, 0}, {0, "ln", true, 1, 0},
		{0, "/ln", false, 5, 0}, {0, "/ln", true, 1, 0},
		{0, "ln2", false, 6, 0}, {0, "ln2", true, 1, 0},
		{0, "a/up", false, 7, 0}, {0, "a/up", true, 0, 0},
		{0, "a/here", false, 8, 0}, {0, "a/here", true, 1, 0},
		{0, "ln/up", false, 7, 0}, {0, "ln/up", true, 0, 0},
		{0, "bad", false, 11, 0}, {0, "bad", true, 0, api.ErrNone},
		{0, "me", false, 12, 0}, {0, "me", true, 0, api.ErrLoop},
		{0, "ring1", false, 13, 0}, {0, "ring1", true, 0, api.ErrLoop},
		{0, "tofile", false, 15, 0}, {0, "tofile", true, 2, 0},
		{0, "tofile2", false, 16, 0}, {0, "tofile2", true, 0, api.ErrKind},
		{0, "a/sub/abs", false, 17, 0}, {0, "a/sub/abs", true, 3, 0},
		{0, "a/sub/root", false, 18, 0}, {0, "a/sub/root", true, 0, 0},
		{0, "a/sub/side", false, 19, 0}, {0, "a/sub/side", true, 4, 0},
		{0, "tolink", false, 22, 0}, {0, "tolink", true, 4, 0},
		{0, "todir", false, 20, 0}, {0, "todir", true, 1, 0},
		{0, "through", false, 21, 0}, {0, "through", true, 0, api.ErrKind},
		{0, "shutln", false, 23, 0}, {0, "shutln", true, 9, 0},
		{0, "mid", false, 25, 0}, {0, "mid", true, 3, 0},
		{0, "ln2/sub/side", false, 19, 0}, {0, "ln2/sub/side", true, 4, 0},
	}
	for _, c := range []search{
		{0, "ln/", false, 1, 0}, {0, "ln/.", false, 1, 0}, {0, "ln/b", false, 2, 0}, {0, "ln//b", false, 2, 0}, {0, "ln/..", false, 0, 0},
		{0, "ln2/", false, 1, 0}, {0, "ln2/b", false, 2, 0}, {0, "ln2/sub/../b", false, 2, 0}, {0, "todir/b", false, 2, 0}, {0, "todir/", false, 1, 0},
		{0, "a/up/a/b", false, 2, 0}, {0, "a/up/a/up/ln/b", false, 2, 0}, {0, "a/here/here/here/b", false, 2, 0}, {0, "a/up/", false, 0, 0},
		{0, "a/sub/abs/c", false, 4, 0}, {0, "a/sub/abs/abs/", false, 3, 0}, {0, "a/sub/abs/..", false, 1, 0}, {0, "a/sub/root/c", false, 24, 0},
		{0, "a/sub/root/../..", false, 0, 0}, {0, "mid/c", false, 4, 0}, {0, "mid/", false, 3, 0}, {1, "sub/side/", false, 0, api.ErrKind},
		{0, "bad/", false, 0, api.ErrNone}, {0, "bad/x", false, 0, api.ErrNone}, {0, "bad/..", false, 0, api.ErrNone},
		{0, "me/", false, 0, api.ErrLoop}, {0, "me/x", false, 0, api.ErrLoop}, {0, "ring2/.", false, 0, api.ErrLoop}, {0, "ring1/", false, 0, api.ErrLoop},
		{0, "tofile/", false, 0, api.ErrKind}, {0, "tofile/x", false, 0, api.ErrKind}, {0, "tofile/..", false, 0, api.ErrKind},
		{0, "tofile2/", false, 0, api.ErrKind}, {0, "through/", false, 0, api.ErrKind}, {0, "tolink/x", false, 0, api.ErrKind},
		{0, "shutln/in", false, 10, 0}, {0, "shutln/", false, 9, 0},
		{5, "b", false, 0, api.ErrKind}, {5, ".", false, 0, api.ErrKind}, {5, "/a", false, 1, 0}, {5, "./", false, 0, api.ErrKind},
	} {
		all = append(all, both(c.from, c.s, c.want, c.err)...)
	}
	checkFinds(t, places, all)
}

// B3: at MaxLinks links and just past them, one behind the other.
func TestFindMaxLinks(t *testing.T) {
	text := "d\ta\nf\ta/b\t1\t1\nl\ta/h\t.\n"
	checkFinds(t, text, []search{
		{0, "a/" + strings.Repeat("h/", 40) + "b", false, 2, 0},
		{0, "a/" + strings.Repeat("h/", 41) + "b", false, 0, api.ErrLoop},
		{0, "a/" + strings.Repeat("h/", 40), false, 1, 0},
		{0, "a/" + strings.Repeat("h/", 41), false, 0, api.ErrLoop},
		{0, "a/" + strings.Repeat("h/", 39) + "h", true, 1, 0},
		{0, "a/" + strings.Repeat("h/", 40) + "h", false, 3, 0},
		{0, "a/" + strings.Repeat("h/", 40) + "h", true, 0, api.ErrLoop},
		{0, "a/" + strings.Repeat("h/", 40) + "no", false, 0, api.ErrNone},
		{0, "a/" + strings.Repeat("h/", 41) + "no", false, 0, api.ErrLoop},
		{0, "a/" + strings.Repeat("h/", 40) + "b/h", false, 0, api.ErrKind},
	})
}

// B3: the same with links that lead to links.
func TestFindMaxLinksWithin(t *testing.T) {
	text := "d\ta\n"
	for i := range 60 {
		target := fmt.Sprintf("k%d", i-1)
		if i == 0 {
			target = "a"
		}
		text += fmt.Sprintf("l\tk%d\t%s\n", i, target)
	}
	checkFinds(t, text, []search{
		{0, "k0", true, 1, 0},
		{0, "k39", true, 1, 0},
		{0, "k40", true, 0, api.ErrLoop},
		{0, "k39/", false, 1, 0},
		{0, "k40/", false, 0, api.ErrLoop},
		{0, "k39/.", false, 1, 0},
		{0, "k40", false, 42, 0},
		{0, "k19/../k19", true, 1, 0},
		{0, "k19/../k20", true, 0, api.ErrLoop},
		{0, "k39/../k0", false, 2, 0},
		{0, "k39/../k0", true, 0, api.ErrLoop},
	})
	// The count begins anew with each call.
	l := load(t, text)
	for range 100 {
		if k, e := tree.Find(l, 0, "k39", true); k != 1 || e != api.OK {
			t.Fatalf("Find of MaxLinks links, again: %d, %d", k, e)
		}
	}
}

// B3: links that would lead on and on in many ways end too.
func TestFindBranchingRing(t *testing.T) {
	long := strings.Repeat("r/", 1000)
	checkFinds(t, "l\tr\tr/r/r\nl\ts\t"+long+"r\n", []search{
		{0, "r", true, 0, api.ErrLoop},
		{0, "s", true, 0, api.ErrLoop},
		{0, strings.Repeat("s/", 10000), false, 0, api.ErrLoop},
	})
}

func TestFindLongPaths(t *testing.T) {
	checkFinds(t, places, []search{
		{0, strings.Repeat("a/../", 100000) + "a/b", false, 2, 0},
		{0, strings.Repeat("/", 100000), false, 0, 0},
		{0, strings.Repeat("a", 100000), false, 0, api.ErrNone},
	})
}
