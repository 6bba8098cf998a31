package expr

import (
	"slices"

	"sieve/api"
	"sieve/digits"
	"sieve/ere"
	"sieve/glob"
	"sieve/path"
)

const maxDigits = 9

// look tells the number and the sign of a primary's argument, and whether it is one as told.
type look func(text string) (num, sign int, ok bool)

// primaries has what looks at the argument of each primary, and nil for one that stands alone.
var primaries = makePrimaries()

func makePrimaries() map[string]look {
	pattern := taken(parsePattern)
	return map[string]look{
		"-true":    nil,
		"-false":   nil,
		"-empty":   nil,
		"-prune":   nil,
		"-print":   nil,
		"-print0":  nil,
		"-quit":    nil,
		"-ignored": nil,
		"-name":    pattern,
		"-iname":   pattern,
		"-path":    pattern,
		"-regex":   taken(ere.Parse),
		"-type":    oneOf("d", "f", "l"),
		"-size":    signed(path.Size),
		"-time":    signed(nineDigits),
	}
}

// taken makes a look at texts that parse takes.
func taken(parse func(string) (api.Expr, api.Errno, int)) look {
	return func(text string) (int, int, bool) {
		_, errno, _ := parse(text)
		return 0, 0, errno == api.OK
	}
}

// oneOf makes a look at texts of which there are a few.
func oneOf(texts ...string) look {
	return func(text string) (int, int, bool) {
		return 0, 0, slices.Contains(texts, text)
	}
}

// signed makes a look at what number reads, with perhaps a sign ahead of it.
func signed(number func(string) (int, bool)) look {
	return func(text string) (int, int, bool) {
		sign, rest := cutSign(text)
		num, ok := number(rest)
		return num, sign, ok
	}
}

func cutSign(text string) (int, string) {
	switch {
	case text == "":
		return 0, text
	case text[0] == '+':
		return 1, text[1:]
	case text[0] == '-':
		return -1, text[1:]
	}
	return 0, text
}

// parsePattern leaves way out: whether a text is a pattern does not hang on it.
func parsePattern(text string) (api.Expr, api.Errno, int) {
	return glob.Parse(text, false)
}

func nineDigits(text string) (int, bool) {
	return digits.Number(text, maxDigits)
}
