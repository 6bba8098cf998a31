package tree

import (
	"slices"
	"strconv"
	"strings"

	"sieve/api"
)

// Print writes one (B2).
func Print(l []api.Node) string {
	var out strings.Builder
	for k, n := range l {
		if k == 0 {
			continue
		}
		sign, fields := lineFields(n)
		line := append([]string{sign, Way(l, k)}, fields...)
		out.WriteString(strings.Join(line, "\t"))
		out.WriteByte('\n')
	}
	return out.String()
}

// Way tells a node's path (B2).
func Way(l []api.Node, k int) string {
	var names []string
	for k > 0 && k < len(l) {
		names = append(names, l[k].Name)
		if l[k].Up >= k {
			break // Load puts a directory ahead of what is in it; other nodes may go in a ring
		}
		k = l[k].Up
	}
	slices.Reverse(names)
	return strings.Join(names, "/")
}

// lineFields tells a node's sign and the fields behind its path.
func lineFields(n api.Node) (string, []string) {
	switch n.Kind {
	case 'f':
		if n.Text != "" && len(n.Text) == n.Size {
			return "t", []string{strconv.Itoa(n.Time), escape(n.Text)}
		}
		return "f", []string{strconv.Itoa(n.Size), strconv.Itoa(n.Time)}
	case 'l':
		return "l", []string{escape(n.Text)}
	}
	return string([]byte{n.Kind}), nil
}

func escape(s string) string {
	var out strings.Builder
	for i := range len(s) {
		sign := strings.IndexByte(plainBytes, s[i])
		if sign < 0 {
			out.WriteByte(s[i])
			continue
		}
		out.WriteByte('\\')
		out.WriteByte(escapeSigns[sign])
	}
	return out.String()
}
