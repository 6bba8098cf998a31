package expr

import "sieve/api"

const (
	maxArgs = 100
	maxDeep = 20
)

// reader goes through arguments from the left.
type reader struct {
	args []string
	at   int // the number of the argument that is next
	deep int // how many `(` and `!` that argument is within
}

// part is a way to read some of the arguments.
type part func() (api.Test, error)

func read(args []string) (api.Test, error) {
	r := reader{args: args}
	t, err := r.list()
	if err == nil && r.at < len(args) {
		err = r.fault(api.ErrText)
	}
	return t, err
}

func (r *reader) list() (api.Test, error) {
	return row(",", r.taking(","), r.or)
}

func (r *reader) or() (api.Test, error) {
	return row("-o", r.taking("-o"), r.and)
}

func (r *reader) and() (api.Test, error) {
	sign := r.taking("-a")
	return row("-a", func() bool { return sign() || r.begins() }, r.not)
}

// row reads one part, and one more as long as more says so; the first two belong together first.
func row(op string, more func() bool, one part) (api.Test, error) {
	t, err := one()
	for err == nil && more() {
		var next api.Test
		next, err = one()
		t = api.Test{Op: op, Kids: []api.Test{t, next}}
	}
	return t, err
}

func (r *reader) not() (api.Test, error) {
	switch r.next() {
	case "!":
		return r.within(r.negated)
	case "(":
		return r.within(r.bracketed)
	}
	return r.primary()
}

// within goes past a `(` or `!`, and reads what stands in it.
func (r *reader) within(inner part) (api.Test, error) {
	if r.deep == maxDeep {
		return api.Test{}, r.fault(api.ErrDeep)
	}
	r.deep++
	defer func() { r.deep-- }()
	r.at++
	return inner()
}

func (r *reader) negated() (api.Test, error) {
	t, err := r.not()
	return api.Test{Op: "!", Kids: []api.Test{t}}, err
}

func (r *reader) bracketed() (api.Test, error) {
	t, err := r.list()
	if err == nil && !r.take(")") {
		err = r.fault(api.ErrText)
	}
	return t, err
}

func (r *reader) primary() (api.Test, error) {
	t := api.Test{Op: r.next()}
	lookAt, ok := primaries[t.Op]
	if !ok {
		return api.Test{}, r.fault(api.ErrText)
	}
	r.at++
	if lookAt == nil {
		return t, nil
	}
	if r.ended() {
		return api.Test{}, r.fault(api.ErrText)
	}
	t.Text = r.args[r.at]
	if t.Num, t.Sign, ok = lookAt(t.Text); !ok {
		return api.Test{}, r.fault(api.ErrKind)
	}
	r.at++
	return t, nil
}

// begins tells whether the next argument is one with which a not begins.
func (r *reader) begins() bool {
	_, ok := primaries[r.next()]
	return ok || r.next() == "!" || r.next() == "("
}

// taking makes a function that goes past a sign, if it is the next argument.
func (r *reader) taking(sign string) func() bool {
	return func() bool { return r.take(sign) }
}

func (r *reader) take(sign string) bool {
	ok := r.next() == sign
	if ok {
		r.at++
	}
	return ok
}

// next is the argument that is next; where they end it is empty, which is no sign and no primary.
func (r *reader) next() string {
	if r.ended() {
		return ""
	}
	return r.args[r.at]
}

// ended also holds ahead of an argument that is one too many, as that is not looked at.
func (r *reader) ended() bool {
	return r.at == len(r.args) || r.at == maxArgs
}

// fault tells what is wrong with the next argument. That it is one too many goes ahead of all else.
func (r *reader) fault(errno api.Errno) error {
	if r.at == maxArgs && r.at < len(r.args) {
		errno = api.ErrMany
	}
	return fault{errno, r.at}
}
