package glob

import "strings"

// style is how brackets are written.
type style struct {
	others  string // the signs that ask for the others
	escapes bool   // a `\` takes the meaning from the byte behind it
}

// bracket is what a `[` begins.
type bracket struct {
	style
	has    set
	length int  // in bytes, with both its signs
	known  bool // whether there is each class that it names
}

// PlainBracket reads the bracket with which a text begins as regular expressions write it, with `^` alone for the others and `\` an item by itself.
// It answers the bytes that the bracket means and how many bytes it has; there is none if it names a class that there is not.
func PlainBracket(s string) (string, int, bool) {
	b, ok := readBracket(s, style{others: "^"})
	if !ok || !b.known {
		return "", 0, false
	}
	return b.has.text(), b.length, true
}

// readBracket reads the bracket with which a text begins, if it begins with one.
func readBracket(s string, how style) (bracket, bool) {
	if !strings.HasPrefix(s, "[") {
		return bracket{}, false
	}
	b := bracket{style: how, known: true}
	at := 1
	not := at < len(s) && strings.IndexByte(b.others, s[at]) >= 0
	if not {
		at++
	}
	for first := at; at < len(s); {
		if s[at] == ']' && at > first {
			if not {
				b.has.turn()
			}
			b.length = at + 1
			return b, true
		}
		at = b.readPart(s, at)
	}
	return bracket{}, false
}

// readPart takes in the part at a place and answers the place behind it.
func (b *bracket) readPart(s string, at int) int {
	if name, ok := className(s[at:]); ok {
		if has, ok := classes()[name]; ok {
			b.has.addClass(has)
		} else {
			b.known = false
		}
		return at + len("[:"+":]") + len(name)
	}
	low, at := b.readItem(s, at)
	high := low
	if at+1 < len(s) && s[at] == '-' && s[at+1] != ']' {
		high, at = b.readItem(s, at+1)
	}
	b.has.add(low, high)
	return at
}

// className tells the name in the class with which a text begins, if it begins with one.
func className(s string) (string, bool) {
	rest, opened := strings.CutPrefix(s, "[:")
	name, _, closed := strings.Cut(rest, ":]")
	other := strings.IndexFunc(name, func(r rune) bool { return r < 'a' || r > 'z' })
	return name, opened && closed && name != "" && other < 0
}

// readItem answers an item's byte and the place behind it. (A `\` that ends the text is taken for an item, as no bracket ends there.)
func (b *bracket) readItem(s string, at int) (byte, int) {
	if b.escapes && s[at] == '\\' && at+1 < len(s) {
		at++
	}
	return s[at], at + 1
}
