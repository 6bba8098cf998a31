package walk

import (
	"cmp"

	"sieve/api"
	"sieve/auto"
	"sieve/ere"
	"sieve/glob"
	"sieve/path"
	"sieve/remember"
	"sieve/tree"
)

// question makes a check of a Test that only asks.
func question(t api.Test) check {
	switch t.Op {
	case "-true":
		return func(*visit) bool { return true }
	case "-name":
		in := remember.Answers(pattern(t.Text))
		return func(v *visit) bool { return in(path.Base(v.path)) }
	case "-iname":
		in := remember.Answers(pattern(small(t.Text)))
		return func(v *visit) bool { return in(small(path.Base(v.path))) }
	case "-path":
		in := pattern(t.Text)
		return func(v *visit) bool { return in(v.path) }
	case "-regex":
		in := matcher(ere.Parse(t.Text))
		return func(v *visit) bool { return in(v.path) }
	case "-type":
		return func(v *visit) bool { return isOfType(v.node, t.Text) }
	case "-size":
		return func(v *visit) bool { return isFile(v.node) && cmp.Compare(v.node.Size, t.Num) == t.Sign }
	case "-time":
		return func(v *visit) bool { return isFile(v.node) && cmp.Compare(v.node.Time, t.Num) == t.Sign }
	case "-empty":
		return func(v *visit) bool { return isEmpty(v.node) }
	}
	return never
}

func never(*visit) bool { return false }

func pattern(text string) func(string) bool {
	return matcher(glob.Parse(text, false))
}

// matcher does not look at the error: beside one stands the Expr of no texts, and nothing is meant.
func matcher(e api.Expr, _ api.Errno, _ int) func(string) bool {
	return auto.Matcher(e)
}

// small takes the letters A to Z for a to z, and leaves all other bytes as they are, also where they are no UTF-8.
func small(s string) string {
	out := []byte(s)
	for k, c := range out {
		if c >= 'A' && c <= 'Z' {
			out[k] = c - 'A' + 'a'
		}
	}
	return string(out)
}

func isOfType(n api.Node, kind string) bool {
	if tree.IsDirectory(n.Kind) {
		return kind == "d"
	}
	return kind == string(rune(n.Kind))
}

func isFile(n api.Node) bool { return n.Kind == 'f' }

func isEmpty(n api.Node) bool {
	if tree.IsDirectory(n.Kind) {
		return len(n.Kids) == 0
	}
	return isFile(n) && n.Size == 0
}
