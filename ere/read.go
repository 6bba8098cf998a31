package ere

import (
	"strings"

	"sieve/api"
	"sieve/auto"
	"sieve/glob"
)

const (
	maxPattern = 200
	maxDeep    = 20

	newline = 10

	signs   = `^.[]$()|*+?{}\/` // what may stand behind a `\`
	noBytes = `^.[$()|*+?{\`    // what is no byte by itself
)

// reader goes through a text from the left.
type reader struct {
	text string
	at   int
	deep int // how many brackets are open
}

// read reads a whole text, or throws the first fault that it meets.
func read(s string) part {
	if len(s) > maxPattern {
		throw(api.ErrLong, 0)
	}
	r := reader{text: s}
	p := r.expr()
	if r.at < len(s) {
		throw(api.ErrText, r.at)
	}
	return p
}

// expr reads branches, up to the text's end or a `)`.
func (r *reader) expr() part {
	branches := []part{r.branch()}
	for r.take('|') {
		branches = append(branches, r.branch())
	}
	return join(auto.OpChoice, branches)
}

func (r *reader) branch() part {
	pieces := []part{r.piece()}
	for r.at < len(r.text) && r.text[r.at] != '|' && r.text[r.at] != ')' {
		pieces = append(pieces, r.piece())
	}
	return join(auto.OpRow, pieces)
}

func (r *reader) piece() part {
	start := r.at
	p := r.atom()
	for t, ok := r.repeater(); ok; t, ok = r.repeater() {
		p = p.repeat(t)
	}
	if p.atoms > maxAtoms {
		throw(api.ErrMany, start)
	}
	return p
}

func (r *reader) atom() part {
	switch {
	case r.take('('):
		return r.group()
	case r.take('.'):
		return one(allBut(newline))
	case r.take('['):
		return r.bracket()
	case r.take('\\'):
		return r.escaped()
	}
	if r.at == len(r.text) || strings.IndexByte(noBytes, r.text[r.at]) >= 0 {
		throw(api.ErrText, r.at)
	}
	return r.literal()
}

// group reads what stands behind a `(`, with its `)`.
func (r *reader) group() part {
	if r.deep == maxDeep {
		throw(api.ErrDeep, r.at-1)
	}
	r.deep++
	p := r.expr()
	r.deep--
	r.want(')')
	return p
}

// bracket reads what stands behind a `[`.
func (r *reader) bracket() part {
	start := r.at - 1
	set, length, ok := glob.PlainBracket(r.text[start:])
	if !ok {
		throw(api.ErrText, start)
	}
	r.at = start + length
	return one(set)
}

// escaped reads the sign behind a `\`.
func (r *reader) escaped() part {
	if r.at == len(r.text) {
		throw(api.ErrText, r.at)
	}
	if strings.IndexByte(signs, r.text[r.at]) < 0 {
		throw(api.ErrText, r.at-1)
	}
	return r.literal()
}

// literal reads a byte that means itself.
func (r *reader) literal() part {
	c := r.text[r.at]
	r.at++
	return one(string([]byte{c}))
}

// take goes past a byte, if it is the next one.
func (r *reader) take(c byte) bool {
	ok := r.at < len(r.text) && r.text[r.at] == c
	if ok {
		r.at++
	}
	return ok
}

// want goes past a byte that must be the next one.
func (r *reader) want(c byte) {
	if !r.take(c) {
		throw(api.ErrText, r.at)
	}
}

// allBut is a set of all bytes but one.
func allBut(c byte) string {
	var out []byte
	for b := range 256 {
		if b != int(c) {
			out = append(out, byte(b))
		}
	}
	return string(out)
}
