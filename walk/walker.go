package walk

import (
	"strconv"
	"strings"

	"sieve/api"
	"sieve/expr"
	"sieve/path"
	"sieve/tree"
)

// walker is a walk and what it has brought so far.
type walker struct {
	nodes   []api.Node
	options api.Options
	wanted  check
	ignored check
	meant   []int  // by a node's number: which one is meant where it is gone to
	above   []bool // by a node's number: whether it has led to where the walk is
	gone    int
	out     strings.Builder
	notes   []string
}

// visit is a node that is gone to.
type visit struct {
	path   string
	depth  int
	number int
	node   api.Node
	pruned bool
}

func newWalker(l []api.Node, t api.Test, o api.Options) *walker {
	w := &walker{nodes: l, options: o, meant: meant(l, o.Follow), above: make([]bool, len(l))}
	w.ignored = ignored(l) // one for all, however often -ignored stands in the Test
	w.wanted = w.checkOf(t)
	if !expr.Acts(t) {
		w.wanted = allOf([]check{w.wanted, w.print('\n')})
	}
	return w
}

// meant is worked out ahead, as a link may be gone to very often and lead a long way.
func meant(l []api.Node, follow bool) []int {
	out := make([]int, len(l))
	for k := range l {
		out[k] = k
		if !follow || l[k].Kind != 'l' {
			continue
		}
		if end, errno := tree.Find(l, l[k].Up, l[k].Text, true); errno == api.OK {
			out[k] = end
		}
	}
	return out
}

func (w *walker) start(start string) {
	k, errno := tree.Find(w.nodes, 0, start, w.options.Follow)
	if errno != api.OK {
		w.note(start, strconv.Itoa(int(errno)))
		return
	}
	w.goTo(k, start, 0)
}

func (w *walker) goTo(k int, way string, depth int) {
	w.count()
	k = w.meant[k]
	v := &visit{path: way, depth: depth, number: k, node: w.nodes[k]}
	if w.options.Depth {
		w.goBelow(v)
		w.lookAt(v)
		return
	}
	w.lookAt(v)
	w.goBelow(v)
}

func (w *walker) count() {
	w.gone++
	if w.gone > w.options.Most {
		panic(errMany)
	}
}

// lookAt does not ask about Max: what is deeper is not gone to.
func (w *walker) lookAt(v *visit) {
	if v.depth >= w.options.Min {
		w.wanted(v)
	}
}

func (w *walker) goBelow(v *visit) {
	if !tree.IsDirectory(v.node.Kind) || v.depth >= w.options.Max || v.pruned {
		return
	}
	switch {
	case w.above[v.number]:
		w.note(v.path, "loop")
	case v.node.Kind == 'x':
		w.note(v.path, "shut")
	default:
		w.goToKids(v)
	}
}

func (w *walker) goToKids(v *visit) {
	w.above[v.number] = true
	for _, k := range v.node.Kids {
		if k >= 0 && k < len(w.nodes) {
			w.goTo(k, path.Join(v.path, w.nodes[k].Name), v.depth+1)
		}
	}
	w.above[v.number] = false
}

func (w *walker) note(way, what string) {
	w.notes = append(w.notes, way+": "+what)
}

func (w *walker) result() api.Result {
	r := api.Result{Out: w.out.String(), Notes: w.notes}
	if len(w.notes) > 0 {
		r.Status = 1
	}
	return r
}
