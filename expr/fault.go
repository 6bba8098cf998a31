package expr

import (
	"strconv"

	"sieve/api"
)

// fault is what is wrong with the argument of a number.
type fault struct {
	errno  api.Errno
	number int
}

func (f fault) Error() string {
	return "argument " + strconv.Itoa(f.number) + ": error " + strconv.Itoa(int(f.errno))
}
