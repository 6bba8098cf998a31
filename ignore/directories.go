package ignore

import (
	"iter"

	"sieve/api"
	"sieve/path"
)

// directories hands out the directories that a node is in, from the nearest one to the root, each with the node's path from there on.
func directories(l []api.Node, k int) iter.Seq2[int, string] {
	return func(yield func(int, string) bool) {
		at, way := k, l[k].Name
		// Load puts a directory ahead of what is in it; other nodes may go in a ring.
		for up := l[at].Up; up >= 0 && up < at; up = l[at].Up {
			if !yield(up, way) {
				return
			}
			at, way = up, path.Join(l[up].Name, way)
		}
	}
}
