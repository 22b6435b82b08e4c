package warden

import (
	"fmt"
	"math"
	"runtime"
	"testing"

	"warden/api"
)

// anyTransactions: right ones, and ones with each of their errors.
func anyTransactions() []api.Tx {
	return []api.Tx{
		{}, {Put: []string{cat}}, {Drop: []string{ann}}, {Must: []string{cat}}, {Not: []string{ann}}, {Put: owners(17)}, {Put: []string{bad}}, {Must: []string{unfit}}, {Put: []string{cat, cat}}, {Must: []string{""}, Not: owners(20), Drop: []string{bad}},
	}
}

// checkMute: every call but Files answers with an error, whatever it is given.
func checkMute(t *testing.T, s *Store, want api.Errno) {
	t.Helper()
	for _, x := range anyTransactions() {
		if n, e := s.Write(x); n != 0 || e != want {
			t.Errorf("P14: Write(%q) = %d, %d, want %d", x, n, e, want)
		}
	}
	for _, text := range []string{"", "page", ann, bad, unfit, "\x00"} {
		if l, e := s.Read(text); len(l) > 0 || e != want {
			t.Errorf("P14: Read(%q) = %q, %d, want %d", text, l, e, want)
		}
		if in, e := s.Check(text); in || e != want {
			t.Errorf("P14: Check(%q) = %v, %d, want %d", text, in, e, want)
		}
	}
	if n, safe, e := s.Revision(); n != 0 || safe != 0 || e != want {
		t.Errorf("P14: Revision() = %d, %d, %d, want %d", n, safe, e, want)
	}
	if e := s.Flush(); e != want {
		t.Errorf("P14: Flush() = %d, want %d", e, want)
	}
	if e := s.Checkpoint(); e != want {
		t.Errorf("P14: Checkpoint() = %d, want %d", e, want)
	}
}

// checkReadOnly: no call changes anything any more, whatever it is given.
func checkReadOnly(t *testing.T, s *Store) {
	t.Helper()
	before := tellsOf(s)
	for _, x := range anyTransactions() {
		if n, e := s.Write(x); n != 0 || e != api.ErrReadOnly {
			t.Errorf("P14: Write(%q) = %d, %d, want %d", x, n, e, api.ErrReadOnly)
		}
	}
	for range 2 {
		if f, c := s.Flush(), s.Checkpoint(); f != api.ErrReadOnly || c != api.ErrReadOnly {
			t.Errorf("P14: Flush() = %d, Checkpoint() = %d, want %d", f, c, api.ErrReadOnly)
		}
	}
	for _, text := range []string{"", "x", bad, unfit, ann} {
		if in, e := s.Check(text); e != Fits(schemaA, text) || in && e != api.OK {
			t.Errorf("P14: Check(%q) = %v, %d", text, in, e)
		}
		if _, e := s.Read(text); e != api.OK {
			t.Errorf("P14: Read(%q): %d", text, e)
		}
	}
	if after := tellsOf(s); after != before {
		t.Errorf("P14: the store told %s, and now %s", before, after)
	}
}

// ended are calls on a store with a transaction that is not safe, one of which must find trouble: Flush or Checkpoint.
func ended(t *testing.T, o api.Options, checkpoint bool) (*Store, api.Errno) {
	t.Helper()
	s, e := Open(schemaA, filesOf(withAnn("")...), o)
	if e != api.OK {
		t.Fatalf("P12: Open = %d", e)
	}
	putIn(t, s, bob)
	if checkpoint {
		return s, s.Checkpoint()
	}
	return s, s.Flush()
}

func TestCallsBehindLostPower(t *testing.T) {
	for number := range 12 {
		s, e := Open(schemaA, nil, crash(number, number, 3))
		if s == nil || e != api.ErrLost {
			t.Fatalf("P14: Open with power till %d = %v, %d", number, s, e)
		}
		before := fmt.Sprint(s.Files())
		checkMute(t, s, api.ErrLost)
		if after := fmt.Sprint(s.Files()); after != before {
			t.Errorf("P13: Files told %s, and now %s", before, after)
		}
	}
	for number := range 19 {
		for _, checkpoint := range []bool{number >= 2, true} {
			s, e := ended(t, crash(number, 2, far), checkpoint)
			if e != api.ErrLost {
				t.Fatalf("P14: power till %d: %d", number, e)
			}
			checkMute(t, s, api.ErrLost)
		}
	}
	if _, e := ended(t, crash(19, 0), true); e != api.OK {
		t.Errorf("P14: power lost behind all operations: %d", e)
	}
}

func TestCallsBehindNoRoom(t *testing.T) {
	// APPEND 0, SYNC, CREATE 2, APPENDs 3 to 6, SYNC, CREATE 8, SYNC, SYNCDIR, CREATE 11, APPEND 12
	for number := range 13 {
		s, e := ended(t, noRoom(number), true)
		if e != api.ErrFull {
			t.Fatalf("P14: Checkpoint with no room from %d on: %d", number, e)
		}
		safe := 8
		if number == 0 {
			safe = 7
		}
		checkRevision(t, s, 8, safe)
		checkReadOnly(t, s)
		checkRevision(t, openedOf(t, schemaA, s.Files()), safe, safe)
	}
	if _, e := ended(t, noRoom(13), true); e != api.OK {
		t.Errorf("P14: no room behind all that need it: %d", e)
	}
	if s, e := ended(t, noRoom(1), false); e != api.OK {
		t.Errorf("P14: no room, where Flush needs none any more: %d", e)
	} else {
		checkWrite(t, s, api.Tx{}, 9, api.OK)
	}
}

func TestPowerLostAndNoRoomAtOnce(t *testing.T) {
	for _, c := range []struct {
		lost, full int
		want       api.Errno
	}{
		{0, 0, api.ErrLost}, {1, 0, api.ErrFull}, {0, 1, api.ErrLost}, {2, 2, api.ErrLost}, {3, 3, api.ErrLost}, {4, 3, api.ErrLost}, {5, 3, api.ErrFull}, {8, 8, api.ErrLost}, {9, 8, api.ErrFull}, {9, 9, api.ErrLost}, {11, 9, api.ErrLost}, {12, 9, api.OK}, {far, 8, api.ErrFull}, {11, far, api.ErrLost}, {far, far, api.OK},
	} {
		s, e := Open(schemaA, nil, api.Options{Crash: c.lost, Full: c.full})
		if s == nil || e != c.want {
			t.Errorf("P14: power till %d, no room from %d on: %v, %d, want %d", c.lost, c.full, s, e, c.want)
			continue
		}
		if e != api.OK {
			checkMute(t, s, e)
		}
	}
	// Behind no room there is no operation ahead of which power could be lost.
	s, e := ended(t, api.Options{Crash: 1, Full: 0}, false)
	if e != api.ErrFull {
		t.Errorf("P14: Flush = %d", e)
	}
	checkReadOnly(t, s)
}

func TestOptionsComeBehindOtherErrors(t *testing.T) {
	twice := filesOf("x", "", "x", "")
	for _, number := range []int{0, 5, math.MaxInt} {
		for _, o := range []api.Options{crash(number, 0), noRoom(number), {Crash: number, Full: number}} {
			checkOpen(t, "type", twice, o, api.ErrLine)
			checkOpen(t, schemaA, twice, o, api.ErrDisk)
			o.Keeps = []int{-1}
			checkOpen(t, schemaA, nil, o, api.ErrOption)
			checkOpen(t, schemaA, twice, o, api.ErrDisk)
			o.Keeps, o.Dirs = nil, -1
			checkOpen(t, schemaA, filesOf("MANIFEST", ""), o, api.ErrOption)
			o.Dirs = 0
			s, e := Open(schemaA, filesOf("MANIFEST", "", "x", "y"), o)
			if s == nil || e != api.ErrCorrupt {
				t.Errorf("P12: corrupt files, %+v: %v, %d", o, s, e)
				continue
			}
			checkMute(t, s, api.ErrCorrupt)
			checkFiles(t, s, "MANIFEST", "", "x", "y")
		}
	}
}

func TestFilesAreNewMemoryBehindTrouble(t *testing.T) {
	for _, o := range []api.Options{crash(5, 2, far), noRoom(5)} {
		s, _ := ended(t, o, true)
		checkOwnFiles(t, s)
	}
}

func TestNothingRunsOnBehindTrouble(t *testing.T) {
	many := storeOf(t, schemaA, owners(200)...)
	flush(t, many)
	files := many.Files()
	before := runtime.NumGoroutine()
	for number := range 230 {
		for _, o := range []api.Options{crash(number, 1, 9), noRoom(number)} {
			s, e := Open(schemaA, files, o)
			if e != api.OK {
				t.Fatalf("P12: Open = %d", e)
			}
			s.Checkpoint()
			Open(schemaA, nil, o)
		}
	}
	checkNoMoreRun(t, before)
}

// troubled is what is told behind each operation of a checkpoint at which there is trouble.
func troubled(t *testing.T) string {
	told := ""
	for number := range 20 {
		for _, o := range []api.Options{crash(number, 1, 3, far, 8), noRoom(number)} {
			s, e := ended(t, o, true)
			told += fmt.Sprintln(number, e, tellsOf(s))
		}
	}
	return told
}

func TestTroubleHangsOnTheCallsAlone(t *testing.T) { checkSame(t, troubled) }
