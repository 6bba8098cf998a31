package ignore

import (
	"strings"

	"sieve/api"
	"sieve/path"
)

// readLine tells a line's rule, if it has one.
func readLine(line string) (api.Rule, bool) {
	left := cutBlanks(line)
	if strings.HasPrefix(left, "#") {
		return api.Rule{}, false
	}
	var r api.Rule
	left, r.Not = strings.CutPrefix(left, "!")
	left, r.Dir = strings.CutSuffix(left, "/")
	r.Fixed = strings.Contains(left, "/")
	r.Pattern = strings.TrimPrefix(left, "/")
	if r.Pattern == "" || !takesParts(r.Pattern) {
		return api.Rule{}, false
	}
	return r, true
}

// cutBlanks takes the blanks from a line's end, but for one that a `\` holds. A `\` behind an odd number of others is held itself.
func cutBlanks(line string) string {
	bare := strings.TrimRight(line, " ")
	signs := len(bare) - len(strings.TrimRight(bare, `\`))
	if signs%2 == 1 && len(bare) < len(line) {
		return line[:len(bare)+1]
	}
	return bare
}

func takesParts(pattern string) bool {
	for _, part := range path.Parts(pattern) {
		if !takes(part) {
			return false
		}
	}
	return true
}
