package auto

// kinds are what bytes fall into, so that no set in question tells two bytes of a kind apart. They are numbered by their least bytes.
type kinds struct {
	of   [256]int
	lows []byte
}

func newKinds(sets []set) kinds {
	var k kinds
	for _, s := range sets {
		k.split(func(b int) int {
			if s.has(b) {
				return 1
			}
			return 0
		})
	}
	k.setLows()
	return k
}

// both are the kinds that two numberings of kinds tell apart together.
func both(a, b *kinds) kinds {
	var k kinds
	k.split(func(c int) int { return a.of[c] })
	k.split(func(c int) int { return b.of[c] })
	k.setLows()
	return k
}

// split parts the bytes of each kind for which a function does not answer the same.
func (k *kinds) split(tell func(b int) int) {
	numbers := map[struct{ old, part int }]int{}
	for b := range k.of {
		key := struct{ old, part int }{k.of[b], tell(b)}
		n, ok := numbers[key]
		if !ok {
			n = len(numbers)
			numbers[key] = n
		}
		k.of[b] = n
	}
}

func (k *kinds) setLows() {
	for b, n := range k.of {
		if n == len(k.lows) {
			k.lows = append(k.lows, byte(b))
		}
	}
}
