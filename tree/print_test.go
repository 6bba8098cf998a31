package tree_test

import (
	"strings"
	"testing"

	"sieve/api"
	"sieve/tree"
)

// B2.
func TestPrint(t *testing.T) {
	for _, c := range []struct{ text, want string }{
		{"", ""},
		{"d\ta\n", "d\ta\n"},
		{"x\ta\nf\ta/b\t1\t2\n", "x\ta\nf\ta/b\t1\t2\n"},
		{"d\tb\nd\ta\nd\tb/z\nd\ta/y\nd\tb/c\n", "d\tb\nd\ta\nd\tb/z\nd\ta/y\nd\tb/c\n"},
		{"f\ta\t007\t000000010\n", "f\ta\t7\t10\n"},
		{"f\ta\t000000000\t0\n", "f\ta\t0\t0\n"},
		{"f\ta\t999999999\t999999999\n", "f\ta\t999999999\t999999999\n"},
		{"t\ta\t01\tx\n", "t\ta\t1\tx\n"},
		{"t\ta\t5\t\n", "f\ta\t0\t5\n"},
		{"t\ta\t5\t\\\\\\t\\n\\0t\n", "t\ta\t5\t\\\\\\t\\n\\0t\n"},
		{"l\ta\t..\n", "l\ta\t..\n"},
		{"l\ta\t\\\\x\\t\\n\\0\n", "l\ta\t\\\\x\\t\\n\\0\n"},
		{"l\ta\t/b/\xff/\n", "l\ta\t/b/\xff/\n"},
		{"d\ta\\t\n", "d\ta\\t\n"},
	} {
		l := load(t, c.text)
		got := tree.Print(l)
		if got != c.want {
			t.Errorf("Print of %q = %q, want %q", c.text, got, c.want)
		}
		if !sameNodes(load(t, got), l) {
			t.Errorf("Load(Print) of %q has other nodes", c.text)
		}
	}
}

// B2: every byte in content and in a target, and those that a name may have.
func TestPrintBytes(t *testing.T) {
	var all strings.Builder
	for c := range 256 {
		all.WriteByte(byte(c))
	}
	field := strings.NewReplacer("\\", `\\`, "\t", `\t`, "\n", `\n`, "\x00", `\0`).Replace(all.String())
	text := "t\ta\t1\t" + field + "\nl\tb\t" + field + "\n"
	names := strings.NewReplacer("\x00", "", "\t", "", "\n", "", "/", "").Replace(all.String())
	for i := 0; i+2 <= len(names); i += 2 {
		text += "d\t" + names[i:i+2] + "\n"
	}
	l := load(t, text)
	if l[1].Text != all.String() || l[2].Text != all.String() {
		t.Fatal("content or target is read wrongly")
	}
	if got := tree.Print(l); got != text {
		t.Errorf("Print = %q, want %q", got, text)
	}
}

// B2: nodes in a long chain, and as many nodes as there may be.
func TestPrintManyNodes(t *testing.T) {
	chain, way := "", "a"
	for range 130 {
		chain += "d\t" + way + "\n"
		way += "/a"
	}
	for _, text := range []string{chain, lines(200)} {
		if got := tree.Print(load(t, text)); got != text {
			t.Errorf("Print = %q, want %q", got, text)
		}
	}
}

// B2.
func TestWay(t *testing.T) {
	l := load(t, "d\tb\nd\ta\nf\ta/c\t1\t2\nx\tb/c\nl\tb/c/ln\t/a\n")
	for k, want := range []string{"", "b", "a", "a/c", "b/c", "b/c/ln"} {
		if got := tree.Way(l, k); got != want {
			t.Errorf("Way of node %d = %q, want %q", k, got, want)
		}
	}
	for _, k := range []int{-1, -2, 6, 7, 1 << 40, -1 << 63, 1<<63 - 1} {
		if got := tree.Way(l, k); got != "" {
			t.Errorf("Way of no node %d = %q", k, got)
		}
	}
	if got := tree.Way(nil, 0); got != "" {
		t.Errorf("Way without nodes = %q", got)
	}
}

// strange are nodes that no text has: all calls end with them all the same.
func strange() [][]api.Node {
	return [][]api.Node{
		nil,
		{},
		{{}},
		{{Kind: 'd', Up: 0, Kids: []int{0, 1, -1, 1 << 40}}},
		{{Kind: 'd', Up: 7}, {Kind: 'd', Name: "a", Up: 1}},
		{{Kind: 'd', Kids: []int{1}}, {Kind: 'd', Name: "a", Up: 2}, {Kind: 'd', Name: "b", Up: 1}},
		{{Kind: 'd', Kids: []int{5, -5, 1}}, {Kind: 'l', Name: "a", Up: -1, Text: "a"}},
		{{Kind: 'd', Kids: []int{1}}, {Kind: 'l', Name: "a", Up: 99, Text: "/a"}, {Kind: 'q', Name: "/", Size: -1, Up: -1 << 63}},
		{{Kind: 'd', Kids: []int{1}}, {Kind: 'l', Name: "a"}, {Kind: 'f', Name: "..", Up: 1<<63 - 1, Size: 1, Text: "\\"}},
	}
}

// Every call ends and none panics.
func TestStrangeNodes(t *testing.T) {
	for _, l := range strange() {
		tree.Print(l)
		for k := -2; k < 5; k++ {
			tree.Way(l, k)
			for _, s := range []string{"", "/", ".", "..", "a", "a/", "/a", "/a/b", "../a", "a/..", "b/a/b"} {
				tree.Find(l, k, s, false)
				tree.Find(l, k, s, true)
			}
		}
	}
}
