// Package tree knows files, directories and links: see doc/02-tree.md.
package tree

import (
	"errors"

	"sieve/api"
)

const (
	maxText   = 20000
	maxName   = 60
	maxNodes  = 200
	maxLinks  = 40
	maxDigits = 9
)

// A byte of plainBytes is written in content and targets as a backslash and
// the byte of escapeSigns at the same place.
const (
	escapeSigns = `\tn0`
	plainBytes  = "\\\t\n\x00"
)

var (
	errText  = errors.New("a line that has not the form")
	errMany  = errors.New("a line more than there may be")
	errNone  = errors.New("a node that is not there")
	errKind  = errors.New("a node that is no directory")
	errTwice = errors.New("a node that is there already")
	errLoop  = errors.New("a link more than are gone through")
)

// errno tells the number of an error. Several reasons may be joined in it; the
// cases stand in the order in which the document names them, so that the
// first one named is told.
func errno(err error) api.Errno {
	switch {
	case err == nil:
		return api.OK
	case errors.Is(err, errText):
		return api.ErrText
	case errors.Is(err, errMany):
		return api.ErrMany
	case errors.Is(err, errNone):
		return api.ErrNone
	case errors.Is(err, errKind):
		return api.ErrKind
	case errors.Is(err, errTwice):
		return api.ErrTwice
	}
	return api.ErrLoop
}

// IsDirectory tells whether a Kind is a directory's. A directory that cannot be
// read counts too: it has nodes in it and is gone through.
func IsDirectory(kind byte) bool {
	return kind == 'd' || kind == 'x'
}

// hasNode guards against numbers in nodes that Load did not answer.
func hasNode(l []api.Node, k int) bool {
	return k >= 0 && k < len(l)
}
