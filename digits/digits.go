// Package digits reads numbers that are written as digits alone.
package digits

// Number tells the number that a text of one to most digits means, and true;
// of another text 0 and false. Up to 18 digits the number cannot wrap round.
func Number(s string, most int) (int, bool) {
	if len(s) == 0 || len(s) > most {
		return 0, false
	}
	n := 0
	for i := range len(s) {
		if s[i] < '0' || s[i] > '9' {
			return 0, false
		}
		n = 10*n + int(s[i]-'0')
	}
	return n, true
}
