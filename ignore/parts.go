package ignore

import (
	"slices"

	"sieve/api"
	"sieve/glob"
)

// anyParts is the part of a pattern that means any number of parts.
const anyParts = "**"

// rowMeans tells whether the parts of a pattern mean those of a path, one by one.
//
// It goes through the pattern from its end. rest[at] tells whether the parts of the path from that place on are meant by the parts of the pattern gone through so far: so the work does not grow with the ways in which several `**` could share a path out.
func rowMeans(pattern, parts []string) bool {
	end := len(parts)
	rest := make([]bool, end+1)
	rest[end] = true
	for k, p := range slices.Backward(pattern) {
		if p == anyParts {
			addAny(rest)
			if k > 0 && k == len(pattern)-1 {
				rest[end] = false
			}
			continue
		}
		for at, part := range parts {
			rest[at] = rest[at+1] && means(p, part)
		}
		rest[end] = false
	}
	return rest[0]
}

// addAny lets any number of parts stand ahead of the rests that are meant.
func addAny(rest []bool) {
	met := false
	for at, meant := range slices.Backward(rest) {
		met = met || meant
		rest[at] = met
	}
}

func takes(pattern string) bool {
	_, errno, _ := glob.Parse(pattern, true)
	return errno == api.OK
}

// means tells of a pattern that glob does not take that it means nothing.
func means(pattern, name string) bool {
	in, errno := glob.Match(pattern, name, true, false)
	return in && errno == api.OK
}
