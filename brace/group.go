package brace

import "iter"

// group is the first one of a text.
type group struct {
	ahead, behind string
	texts         iter.Seq[string]
}

func firstGroup(s string) (group, bool) {
	for open, sign := range signs(s) {
		if sign != '{' {
			continue
		}
		inner, behind, closed := enclosed(s[open+1:])
		if !closed {
			continue
		}
		if texts, ok := groupTexts(inner); ok {
			return group{s[:open], behind, texts}, true
		}
	}
	return group{}, false
}

// groupTexts hands out the texts of a group, if what is between a `{` and its `}` is one's.
func groupTexts(inner string) (iter.Seq[string], bool) {
	if isList(inner) {
		return listTexts(inner), true
	}
	return rowTexts(inner)
}

// signs hands out the `{`, `}` and `,` of a text that count, each with its place.
func signs(s string) iter.Seq2[int, byte] {
	return func(yield func(int, byte) bool) {
		for k := 0; k < len(s); k++ {
			switch s[k] {
			case '\\':
				k++
			case '{', '}', ',':
				if !yield(k, s[k]) {
					return
				}
			}
		}
	}
}

// enclosed parts what stands behind a `{` at the `}` that closes it.
func enclosed(s string) (inner, behind string, closed bool) {
	deep := 0
	for k, sign := range signs(s) {
		switch {
		case sign == '{':
			deep++
		case sign == '}' && deep == 0:
			return s[:k], s[k+1:], true
		case sign == '}':
			deep--
		}
	}
	return "", "", false
}
