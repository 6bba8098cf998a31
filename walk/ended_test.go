package walk

import (
	"errors"
	"reflect"
	"testing"

	"sieve/api"
)

// halfway is a walk that has brought something already.
func halfway() *walker {
	w := &walker{}
	w.out.WriteString("/a\n")
	w.note("/s", "shut")
	return w
}

// J2: -quit leaves what was found so far, a node too many nothing.
func TestEnded(t *testing.T) {
	for _, c := range []struct {
		thrown error
		r      api.Result
		errno  api.Errno
	}{
		{errQuit, api.Result{Out: "/a\n", Notes: []string{"/s: shut"}, Status: 1}, api.OK},
		{errMany, api.Result{}, api.ErrMany},
		{errors.Join(errQuit), api.Result{Out: "/a\n", Notes: []string{"/s: shut"}, Status: 1}, api.OK},
		{errors.Join(errMany), api.Result{}, api.ErrMany},
	} {
		r, errno := halfway().ended(c.thrown)
		if !reflect.DeepEqual(r, c.r) || errno != c.errno {
			t.Errorf("ended(%v) = %+v %d, want %+v %d", c.thrown, r, errno, c.r, c.errno)
		}
	}
}

// A fault of the program does not pass for an answer, be it an error or not.
func TestEndedByAnother(t *testing.T) {
	for _, thrown := range []any{errors.New("another"), errors.New(errQuit.Error()), errMany.Error(), 4, api.ErrMany, struct{}{}} {
		if again := thrownAgain(thrown); again != thrown {
			t.Errorf("ended(%#v) throws %#v", thrown, again)
		}
	}
}

func thrownAgain(thrown any) (again any) {
	defer func() { again = recover() }()
	halfway().ended(thrown)
	return nil
}
