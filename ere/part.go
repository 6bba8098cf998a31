package ere

import (
	"slices"

	"sieve/api"
	"sieve/auto"
)

const maxAtoms = 1000

// part is what has been read: the set that it means, and how many atoms it has with all its times written out.
type part struct {
	api.Expr
	atoms int
}

// one is an atom that means one byte of those of a text.
func one(set string) part {
	return part{api.Expr{Op: auto.OpByte, Set: set}, 1}
}

// join makes one part of several that stand in a row, or of which one is chosen.
func join(op int, parts []part) part {
	if len(parts) == 1 {
		return parts[0]
	}
	out := part{Expr: api.Expr{Op: op}}
	for _, p := range parts {
		out.Kids = append(out.Kids, p.Expr)
		out.atoms += p.atoms
	}
	return out
}

// repeat writes a part out.
func (p part) repeat(t times) part {
	// More atoms than too many are not told apart: they would grow beyond any number.
	atoms := min(p.atoms*t.copies(), maxAtoms+1)
	if atoms == 0 {
		// Only the empty text has no atoms. Without this, copies of it would never be too many.
		return part{Expr: api.Expr{Op: auto.OpEmpty}}
	}
	kids := slices.Repeat([]api.Expr{p.Expr}, t.least)
	if t.endless {
		kids = append(kids, api.Expr{Op: auto.OpAgain, Kids: []api.Expr{p.Expr}})
	} else {
		kids = append(kids, slices.Repeat([]api.Expr{p.option()}, t.most-t.least)...)
	}
	return part{api.Expr{Op: auto.OpRow, Kids: kids}, atoms}
}

// option is a part that may be left out.
func (p part) option() api.Expr {
	return api.Expr{Op: auto.OpChoice, Kids: []api.Expr{{Op: auto.OpEmpty}, p.Expr}}
}
