package walk

import (
	"sieve/api"
	"sieve/ignore"
	"sieve/remember"
)

// check tells whether a Test is true of a node that is gone to, and does what the Test does there.
type check func(v *visit) bool

// checkOf makes a function of a Test ahead of the walk, so that patterns are read once and not at each node.
func (w *walker) checkOf(t api.Test) check {
	switch t.Op {
	case ",":
		return lastOf(w.checksOf(t.Kids))
	case "-o":
		return anyOf(w.checksOf(t.Kids))
	case "-a":
		return allOf(w.checksOf(t.Kids))
	case "!":
		return not(anyOf(w.checksOf(t.Kids)))
	case "-ignored":
		return w.ignored
	case "-prune":
		return prune
	case "-print":
		return w.print('\n')
	case "-print0":
		return w.print(0)
	case "-quit":
		return func(*visit) bool { panic(errQuit) }
	}
	return question(t)
}

func (w *walker) checksOf(tests []api.Test) []check {
	out := make([]check, len(tests))
	for k := range tests {
		out[k] = w.checkOf(tests[k])
	}
	return out
}

func lastOf(kids []check) check {
	return func(v *visit) bool {
		last := false
		for _, kid := range kids {
			last = kid(v)
		}
		return last
	}
}

func anyOf(kids []check) check {
	return func(v *visit) bool {
		for _, kid := range kids {
			if kid(v) {
				return true
			}
		}
		return false
	}
}

func allOf(kids []check) check {
	return func(v *visit) bool {
		for _, kid := range kids {
			if !kid(v) {
				return false
			}
		}
		return true
	}
}

func not(kid check) check {
	return func(v *visit) bool { return !kid(v) }
}

func prune(v *visit) bool {
	v.pruned = true
	return true
}

func (w *walker) print(end byte) check {
	return func(v *visit) bool {
		w.out.WriteString(v.path)
		w.out.WriteByte(end)
		return true
	}
}

// ignored remembers what it was told, as a node may be gone to very often.
func ignored(l []api.Node) check {
	over := remember.Answers(ignore.Asker(l))
	return func(v *visit) bool { return over(v.number) }
}
