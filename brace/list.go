package brace

import "iter"

func isList(inner string) bool {
	n := 0
	for range pieces(inner) {
		n++
	}
	return n > 1
}

func listTexts(inner string) iter.Seq[string] {
	return func(yield func(string) bool) {
		for piece := range pieces(inner) {
			for text := range texts(piece) {
				if !yield(text) {
					return
				}
			}
		}
	}
}

// pieces hands out what stands between the commas that stand in no pair of braces.
func pieces(inner string) iter.Seq[string] {
	return func(yield func(string) bool) {
		deep, from := 0, 0
		for k, sign := range signs(inner) {
			switch {
			case sign == '{':
				deep++
			case sign == '}':
				deep--
			case deep == 0:
				if !yield(inner[from:k]) {
					return
				}
				from = k + 1
			}
		}
		yield(inner[from:])
	}
}
