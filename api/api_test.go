package api_test

import (
	"testing"

	"sieve/api"
)

func TestErrorNumbers(t *testing.T) {
	for want, got := range []api.Errno{
		api.OK, api.ErrLong, api.ErrText, api.ErrRange, api.ErrMany,
		api.ErrDeep, api.ErrNone, api.ErrKind, api.ErrTwice, api.ErrLoop,
	} {
		if int(got) != want {
			t.Errorf("error number %d stands where %d should", int(got), want)
		}
	}
}
