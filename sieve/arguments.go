package sieve

import (
	"strings"

	"sieve/api"
	"sieve/brace"
	"sieve/digits"
)

const (
	deepest   = 1000000000
	maxDigits = 9
)

// reader reads what stands ahead of the test. With an error it stays at the argument that is to be told.
type reader struct {
	args    []string
	at      int
	starts  []string
	options api.Options
}

func readArguments(args []string) (*reader, api.Errno) {
	r := &reader{args: args, options: api.Options{Max: deepest}}
	r.readFollow()
	if errno := r.readStarts(); errno != api.OK {
		return r, errno
	}
	return r, r.readOptions()
}

func (r *reader) isAt(word string) bool {
	return r.at < len(r.args) && r.args[r.at] == word
}

func (r *reader) readFollow() {
	r.options.Follow = r.isAt("-L")
	if r.options.Follow || r.isAt("-P") {
		r.at++
	}
}

func (r *reader) readStarts() api.Errno {
	for r.at < len(r.args) && isStart(r.args[r.at]) {
		texts, errno := brace.Expand(r.args[r.at])
		if errno != api.OK {
			return errno
		}
		r.starts = append(r.starts, texts...)
		r.at++
	}
	if len(r.starts) == 0 {
		r.starts = []string{"/"}
	}
	return api.OK
}

func isStart(arg string) bool {
	return arg != "(" && arg != "!" && arg != "," && !strings.HasPrefix(arg, "-")
}

func (r *reader) readOptions() api.Errno {
	numbers := map[string]*int{"-mindepth": &r.options.Min, "-maxdepth": &r.options.Max}
options:
	for r.at < len(r.args) {
		field, ok := numbers[r.args[r.at]]
		switch {
		case ok:
			r.at++
			if errno := r.readNumber(field); errno != api.OK {
				return errno
			}
		case r.isAt("-depth"):
			r.options.Depth = true
			r.at++
		default:
			break options
		}
	}
	return api.OK
}

func (r *reader) readNumber(field *int) api.Errno {
	if r.at == len(r.args) {
		return api.ErrText
	}
	n, ok := digits.Number(r.args[r.at], maxDigits)
	if !ok {
		return api.ErrKind
	}
	*field = n
	r.at++
	return api.OK
}
