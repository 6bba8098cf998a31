package glob

// classes are what a bracket may name, with what tells whether a byte is of it.
func classes() map[string]func(c byte) bool {
	upper, lower, digit := span('A', 'Z'), span('a', 'z'), span('0', '9')
	alpha := either(upper, lower)
	alnum := either(alpha, digit)
	graph := span(33, 126)
	return map[string]func(c byte) bool{
		"alpha":  alpha,
		"digit":  digit,
		"alnum":  alnum,
		"upper":  upper,
		"lower":  lower,
		"xdigit": either(digit, span('A', 'F'), span('a', 'f')),
		"space":  either(span(9, 13), span(32, 32)),
		"blank":  either(span(9, 9), span(32, 32)),
		"punct":  func(c byte) bool { return graph(c) && !alnum(c) },
		"print":  span(32, 126),
		"graph":  graph,
		"cntrl":  either(span(0, 31), span(127, 127)),
	}
}

func span(low, high byte) func(c byte) bool {
	return func(c byte) bool { return low <= c && c <= high }
}

func either(parts ...func(c byte) bool) func(c byte) bool {
	return func(c byte) bool {
		for _, has := range parts {
			if has(c) {
				return true
			}
		}
		return false
	}
}
