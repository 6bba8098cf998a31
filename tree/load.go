package tree

import (
	"errors"
	"slices"
	"strings"

	"sieve/api"
	"sieve/digits"
	"sieve/path"
)

// reader reads the fields behind a line's path into a node.
type reader func(n *api.Node, fields []string) error

// spot is what later lines ask of the node of a path.
type spot struct {
	number    int
	directory bool
}

// builder is a tree whose lines are being read.
type builder struct {
	nodes   []api.Node
	spots   map[string]spot // by path
	readers map[string]reader
}

// Load reads a tree (B1).
func Load(text string) ([]api.Node, api.Errno, int) {
	if len(text) > maxText {
		return nil, api.ErrLong, 0
	}
	b := newBuilder()
	for place := 0; place < len(text); {
		line, _, ended := strings.Cut(text[place:], "\n")
		if err := b.add(line, ended); err != nil {
			return nil, errno(err), place
		}
		place += len(line) + 1
	}
	b.sortKids()
	return b.nodes, api.OK, 0
}

func newBuilder() *builder {
	return &builder{
		nodes:   []api.Node{{Kind: 'd', Up: -1}},
		spots:   map[string]spot{"": {number: 0, directory: true}},
		readers: lineReaders(),
	}
}

func lineReaders() map[string]reader {
	return map[string]reader{
		"d": readDirectory,
		"x": readShut,
		"f": readFile,
		"t": readContent,
		"l": readLink,
	}
}

// add takes one line more, or tells all that speaks against it at once: errno
// knows which reason goes first.
func (b *builder) add(line string, ended bool) error {
	n, way, form := b.read(line)
	up := upOf(way)
	if err := errors.Join(form, checkEnd(ended), b.checkRoom(), b.checkSpot(up, way)); err != nil {
		return err
	}
	number := len(b.nodes)
	n.Name = path.Base(way)
	n.Up = b.spots[up].number
	b.nodes = append(b.nodes, n)
	b.nodes[n.Up].Kids = append(b.nodes[n.Up].Kids, number)
	b.spots[way] = spot{number: number, directory: IsDirectory(n.Kind)}
	return nil
}

// read reads what a line says by itself: the node, but for its place in the
// tree, and its path.
func (b *builder) read(line string) (api.Node, string, error) {
	fields := strings.Split(line, "\t")
	read, known := b.readers[fields[0]]
	if !known || len(fields) < 2 {
		return api.Node{}, "", errText
	}
	n, way := api.Node{}, fields[1]
	err := errors.Join(checkNames(way), read(&n, fields[2:]))
	return n, way, err
}

func checkEnd(ended bool) error {
	if !ended {
		return errText
	}
	return nil
}

// checkRoom lets the root in beside as many nodes as there may be lines.
func (b *builder) checkRoom() error {
	if len(b.nodes) > maxNodes {
		return errMany
	}
	return nil
}

func (b *builder) checkSpot(up string, way string) error {
	above, known := b.spots[up]
	if !known {
		return errNone
	}
	if !above.directory {
		return errKind
	}
	if _, taken := b.spots[way]; taken {
		return errTwice
	}
	return nil
}

func (b *builder) sortKids() {
	for _, n := range b.nodes {
		slices.SortFunc(n.Kids, func(i, j int) int {
			return strings.Compare(b.nodes[i].Name, b.nodes[j].Name)
		})
	}
}

// upOf tells a path without its last name.
func upOf(way string) string {
	return way[:max(strings.LastIndexByte(way, '/'), 0)]
}

func checkNames(way string) error {
	for name := range strings.SplitSeq(way, "/") {
		if !isName(name) {
			return errText
		}
	}
	return nil
}

func isName(s string) bool {
	if s == "" || len(s) > maxName || s == "." || s == ".." {
		return false
	}
	return !strings.ContainsAny(s, "\x00\t\n/")
}

func readDirectory(n *api.Node, fields []string) error {
	n.Kind = 'd'
	return readNumbers(fields)
}

func readShut(n *api.Node, fields []string) error {
	n.Kind = 'x'
	return readNumbers(fields)
}

func readFile(n *api.Node, fields []string) error {
	n.Kind = 'f'
	return readNumbers(fields, &n.Size, &n.Time)
}

func readContent(n *api.Node, fields []string) error {
	n.Kind = 'f'
	if len(fields) != 2 {
		return errText
	}
	err := errors.Join(readNumbers(fields[:1], &n.Time), readText(fields[1], &n.Text))
	n.Size = len(n.Text)
	return err
}

func readLink(n *api.Node, fields []string) error {
	n.Kind = 'l'
	if len(fields) != 1 || fields[0] == "" {
		return errText
	}
	return readText(fields[0], &n.Text)
}

// readNumbers wants just as many fields as there are places for them: none, if
// there is no place.
func readNumbers(fields []string, into ...*int) error {
	if len(fields) != len(into) {
		return errText
	}
	for i, field := range fields {
		n, ok := digits.Number(field, maxDigits)
		if !ok {
			return errText
		}
		*into[i] = n
	}
	return nil
}

// readText reads a field in which signs stand for the bytes that cannot stand
// there by themselves.
func readText(field string, into *string) error {
	var plain strings.Builder
	for field != "" {
		c, width := plainByte(field)
		if width == 0 {
			return errText
		}
		plain.WriteByte(c)
		field = field[width:]
	}
	*into = plain.String()
	return nil
}

// plainByte tells the byte that a field's beginning stands for, and how many
// bytes do so: none, if nothing can begin so.
func plainByte(field string) (byte, int) {
	if strings.IndexByte(plainBytes, field[0]) < 0 {
		return field[0], 1
	}
	if field[0] != '\\' || len(field) == 1 {
		return 0, 0
	}
	sign := strings.IndexByte(escapeSigns, field[1])
	if sign < 0 {
		return 0, 0
	}
	return plainBytes[sign], 2
}
