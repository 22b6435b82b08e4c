package state

import (
	"testing"

	"warden/api"
	"warden/schemas"
)

func stateAt(t *testing.T, revision int) *State {
	t.Helper()
	schema, _, e := schemas.Parse("type t\nset a self")
	if e != api.OK {
		t.Fatalf("P3: Parse: %d", e)
	}
	s := New(schema)
	s.revision = revision
	return s
}

func TestTheLastRevision(t *testing.T) {
	put := api.Tx{Put: []string{"t:1#a@t:2"}}
	s := stateAt(t, 999999998)
	if n, e := s.Write(put); n != 999999999 || e != api.OK {
		t.Errorf("P7: Write = %d, %d, want the last revision", n, e)
	}
	for _, x := range []api.Tx{{}, put, {Drop: put.Put}} {
		if n, e := s.Write(x); n != 0 || e != api.ErrLong {
			t.Errorf("P7: behind the last revision Write(%q) = %d, %d, want %d", x, n, e, api.ErrLong)
		}
	}
	if l := s.Read(""); len(l) != 1 || l[0] != "t:1#a@t:2" || s.Revision() != 999999999 {
		t.Errorf("P7: behind what was refused there are %q, %d", l, s.Revision())
	}
}

func TestTheLastRevisionComesLast(t *testing.T) {
	for _, c := range []struct {
		x api.Tx
		e api.Errno
	}{
		{api.Tx{Put: []string{"t:1#a"}}, api.ErrText},
		{api.Tx{Put: []string{"t:1#b@t:2"}}, api.ErrFit},
		{api.Tx{Put: []string{"t:1#a@t:2", "t:1#a@t:2"}}, api.ErrTwice},
		{api.Tx{Must: []string{"t:1#a@t:2"}}, api.ErrCondition},
	} {
		if n, e := stateAt(t, api.MaxNumber).Write(c.x); n != 0 || e != c.e {
			t.Errorf("P7: Write(%q) = %d, %d, want %d", c.x, n, e, c.e)
		}
	}
}
