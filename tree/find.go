package tree

import (
	"strings"

	"sieve/api"
	"sieve/path"
)

// finder counts the links of a whole call, however they lead through each
// other.
type finder struct {
	nodes []api.Node
	links int
}

// Find goes to a path (B3).
func Find(l []api.Node, from int, s string, follow bool) (int, api.Errno) {
	f := finder{nodes: l}
	at, err := f.find(from, s, follow)
	if err != nil {
		return 0, errno(err)
	}
	return at, api.OK
}

func (f *finder) find(from int, s string, follow bool) (int, error) {
	if !hasNode(f.nodes, from) || s == "" {
		return 0, errNone
	}
	at := from
	if s[0] == '/' {
		at = 0
	}
	wantsDirectory := strings.HasSuffix(s, "/")
	parts := path.Parts(s)
	for i, part := range parts {
		behind := i < len(parts)-1
		next, err := f.step(at, part, behind || follow || wantsDirectory)
		if err != nil {
			return 0, err
		}
		at = next
	}
	if wantsDirectory && !IsDirectory(f.nodes[at].Kind) {
		return 0, errKind
	}
	return at, nil
}

// step goes one part on.
func (f *finder) step(at int, part string, follow bool) (int, error) {
	here := f.nodes[at]
	if !IsDirectory(here.Kind) {
		return 0, errKind
	}
	switch part {
	case ".":
		return at, nil
	case "..":
		if hasNode(f.nodes, here.Up) {
			return here.Up, nil
		}
		return at, nil
	}
	kid, err := f.kid(here, part)
	if err != nil {
		return 0, err
	}
	if f.nodes[kid].Kind == 'l' && follow {
		return f.through(f.nodes[kid])
	}
	return kid, nil
}

func (f *finder) kid(directory api.Node, name string) (int, error) {
	for _, k := range directory.Kids {
		if hasNode(f.nodes, k) && f.nodes[k].Name == name {
			return k, nil
		}
	}
	return 0, errNone
}

// through goes to where a link leads, to the very end: a link at the end of
// its target has either a part behind it or is to be followed.
func (f *finder) through(link api.Node) (int, error) {
	if f.links == maxLinks {
		return 0, errLoop
	}
	f.links++
	return f.find(link.Up, link.Text, true)
}
