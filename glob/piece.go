package glob

import (
	"sieve/api"
	"sieve/auto"
)

const maxPattern = 200

// piece is a part of a pattern that means one byte, or any bytes.
type piece struct {
	written byte // what it means, if it is not wild
	wild    bool // it is a `*`, a `?` or a bracket
	many    bool
	has     set // what it may mean, if it is wild
}

// read reads a pattern's pieces from the left.
func read(s string) ([]piece, api.Errno, int) {
	if len(s) > maxPattern {
		return nil, api.ErrLong, 0
	}
	var out []piece
	for at := 0; at < len(s); {
		p, length, errno := readPiece(s[at:])
		switch errno {
		case api.ErrText:
			return nil, errno, len(s)
		case api.ErrRange:
			return nil, errno, at
		}
		out = append(out, p)
		at += length
	}
	return out, api.OK, 0
}

// readPiece answers the piece with which a text begins and how many bytes it has.
func readPiece(s string) (piece, int, api.Errno) {
	switch s[0] {
	case '*', '?':
		return anyByte(s[0] == '*'), 1, api.OK
	case '\\':
		if len(s) == 1 {
			return piece{}, 0, api.ErrText
		}
		return oneByte(s[1]), 2, api.OK
	case '[':
		b, ok := readBracket(s, style{others: "!^", escapes: true})
		if ok && !b.known {
			return piece{}, 0, api.ErrRange
		}
		if ok {
			return piece{has: b.has, wild: true}, b.length, api.OK
		}
	}
	return oneByte(s[0]), 1, api.OK
}

func anyByte(many bool) piece {
	p := piece{wild: true, many: many}
	p.has.turn()
	return p
}

func oneByte(c byte) piece { return piece{written: c} }

// expr is the set of texts that a piece means.
func (p *piece) expr(way bool) api.Expr {
	if !p.wild {
		return api.Expr{Op: auto.OpByte, Set: string([]byte{p.written})}
	}
	has := p.has
	if way {
		has['/'] = false
	}
	e := api.Expr{Op: auto.OpByte, Set: has.text()}
	if p.many {
		return api.Expr{Op: auto.OpAgain, Kids: []api.Expr{e}}
	}
	return e
}
