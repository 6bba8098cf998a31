package ere

import (
	"sieve/api"
	"sieve/digits"
)

const (
	maxTimes  = 255
	maxDigits = 3
)

// times is how often an atom may stand.
type times struct {
	least, most int
	endless     bool // there is no most
}

// copies is how many of an atom are written out.
func (t times) copies() int {
	if t.endless {
		return t.least + 1
	}
	return t.most
}

// repeater reads what says how often the atom ahead of it may stand, if there is such a sign.
func (r *reader) repeater() (times, bool) {
	switch {
	case r.take('*'):
		return times{endless: true}, true
	case r.take('+'):
		return times{least: 1, endless: true}, true
	case r.take('?'):
		return times{most: 1}, true
	case r.take('{'):
		return r.counted(), true
	}
	return times{}, false
}

// counted reads what stands behind a `{`, with its `}`.
func (r *reader) counted() times {
	least := r.number(0)
	t := times{least: least, most: least}
	if r.take(',') {
		t.endless = r.at < len(r.text) && r.text[r.at] == '}'
		if !t.endless {
			t.most = r.number(least)
		}
	}
	r.want('}')
	return t
}

// number reads a NUMBER that may not be below another one.
func (r *reader) number(least int) int {
	start := r.at
	for r.digit() && r.at-start < maxDigits {
		r.at++
	}
	n, ok := digits.Number(r.text[start:r.at], maxDigits)
	if !ok {
		throw(api.ErrText, start)
	}
	if n > maxTimes || n < least {
		throw(api.ErrRange, start)
	}
	return n
}

func (r *reader) digit() bool {
	return r.at < len(r.text) && '0' <= r.text[r.at] && r.text[r.at] <= '9'
}
