package glob

import "strings"

// bracket is what a `[` begins.
type bracket struct {
	has    set
	length int  // in bytes, with both its signs
	known  bool // whether there is each class that it names
}

// readBracket reads the bracket with which a text begins, if its `[` begins one.
func readBracket(s string) (bracket, bool) {
	b := bracket{known: true}
	at := 1
	not := at < len(s) && (s[at] == '!' || s[at] == '^')
	if not {
		at++
	}
	for first := at; at < len(s); {
		if s[at] == ']' && at > first {
			if not {
				b.has.turn()
			}
			b.length = at + 1
			return b, true
		}
		at = b.readPart(s, at)
	}
	return bracket{}, false
}

// readPart takes in the part at a place and answers the place behind it.
func (b *bracket) readPart(s string, at int) int {
	if name, ok := className(s[at:]); ok {
		if has, ok := classes()[name]; ok {
			b.has.addClass(has)
		} else {
			b.known = false
		}
		return at + len("[:"+":]") + len(name)
	}
	low, at := readItem(s, at)
	high := low
	if at+1 < len(s) && s[at] == '-' && s[at+1] != ']' {
		high, at = readItem(s, at+1)
	}
	b.has.add(low, high)
	return at
}

// className tells the name in the class with which a text begins, if it begins with one.
func className(s string) (string, bool) {
	rest, opened := strings.CutPrefix(s, "[:")
	name, _, closed := strings.Cut(rest, ":]")
	other := strings.IndexFunc(name, func(r rune) bool { return r < 'a' || r > 'z' })
	return name, opened && closed && name != "" && other < 0
}

// readItem answers an item's byte and the place behind it. (A `\` that ends the text is taken for an item, as no bracket ends there.)
func readItem(s string, at int) (byte, int) {
	if s[at] == '\\' && at+1 < len(s) {
		at++
	}
	return s[at], at + 1
}
