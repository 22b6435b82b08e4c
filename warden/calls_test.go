package warden

import (
	"fmt"
	"runtime"
	"slices"
	"sync"
	"testing"
	"time"
	"unsafe"

	"warden/api"
)

// quiet: power is never lost, and there is always room.
var quiet = api.Options{Crash: api.Never, Full: api.Never}

// framesOf are the frames of some payloads, one behind the other.
func framesOf(payloads ...string) string {
	all := ""
	for _, payload := range payloads {
		all += libraryFrame(payload)
	}
	return all
}

// filesOf: of name, bytes, name, bytes, ..
func filesOf(l ...string) []api.File {
	var files []api.File
	for pair := range slices.Chunk(l, 2) {
		files = append(files, api.File{Name: pair[0], Data: pair[1]})
	}
	return files
}

// opened is a store of files: name, bytes, name, bytes, ..
func opened(t *testing.T, schema string, l ...string) *Store {
	t.Helper()
	return openedOf(t, schema, filesOf(l...))
}

func openedOf(t *testing.T, schema string, files []api.File) *Store {
	t.Helper()
	s, e := Open(schema, files, quiet)
	if s == nil || e != api.OK {
		t.Fatalf("P12: Open(.., %.300q) = %v, %d", files, s, e)
	}
	return s
}

func checkFiles(t *testing.T, s *Store, l ...string) {
	t.Helper()
	if got := s.Files(); !slices.Equal(got, filesOf(l...)) {
		t.Errorf("P13: Files() = %.600q, want %.600q", got, filesOf(l...))
	}
}

func flush(t *testing.T, s *Store) {
	t.Helper()
	if e := s.Flush(); e != api.OK {
		t.Fatalf("P10: Flush() = %d", e)
	}
}

func checkpoint(t *testing.T, s *Store) {
	t.Helper()
	if e := s.Checkpoint(); e != api.OK {
		t.Fatalf("P11: Checkpoint() = %d", e)
	}
}

func newStore(t *testing.T, schema string) *Store {
	t.Helper()
	s, e := Open(schema, nil, quiet)
	if s == nil || e != api.OK {
		t.Fatalf("P6: Open(%q, no files) = %v, %d", schema, s, e)
	}
	return s
}

func checkWrite(t *testing.T, s *Store, x api.Tx, number int, want api.Errno) {
	t.Helper()
	if n, e := s.Write(x); n != number || e != want {
		t.Errorf("P7: Write(%.300q) = %d, %d, want %d, %d", x, n, e, number, want)
	}
}

// putIn writes tuples, as many at a time as may be.
func putIn(t *testing.T, s *Store, tuples ...string) {
	t.Helper()
	for l := range slices.Chunk(tuples, api.MaxChanges) {
		if _, e := s.Write(api.Tx{Put: l}); e != api.OK {
			t.Fatalf("P7: Write of %q: %d", l, e)
		}
	}
}

func checkRead(t *testing.T, s *Store, prefix string, want ...string) {
	t.Helper()
	if l, e := s.Read(prefix); !slices.Equal(l, want) || e != api.OK {
		t.Errorf("P8: Read(%.80q) = %q, %d, want %q", prefix, l, e, want)
	}
}

func checkRevision(t *testing.T, s *Store, number, safe int) {
	t.Helper()
	if n, m, e := s.Revision(); n != number || m != safe || e != api.OK {
		t.Errorf("P8: Revision() = %d, %d, %d, want %d, %d", n, m, e, number, safe)
	}
}

func checkIn(t *testing.T, s *Store, want bool, tuples ...string) {
	t.Helper()
	for _, tuple := range tuples {
		if in, e := s.Check(tuple); in != want || e != api.OK {
			t.Errorf("P9: Check(%s) = %v, %d, want %v", tuple, in, e, want)
		}
	}
}

// owners: n tuples that fit the document's schema, all different, in rising order.
func owners(n int) []string {
	var l []string
	for i := range n {
		l = append(l, fmt.Sprintf("page:%03d#owner@user:ann", i))
	}
	return l
}

// checkSame: what is told is the same, even if it is told by many at once.
func checkSame(t *testing.T, tell func(*testing.T) string) {
	t.Helper()
	want := tell(t)
	side := make([]string, 30)
	var group sync.WaitGroup
	for i := range side {
		group.Go(func() { side[i] = tell(t) })
	}
	group.Wait()
	for _, got := range append(side, tell(t)) {
		if got != want {
			t.Fatalf("P2: the same calls have told %.500s, and %.500s", want, got)
		}
	}
}

// checkNoMoreRun: there are no more goroutines than there were. One that has handed over its last frame may need a moment to be gone.
func checkNoMoreRun(t *testing.T, before int) {
	t.Helper()
	for range 1000 {
		if runtime.NumGoroutine() <= before {
			return
		}
		time.Sleep(time.Millisecond)
	}
	t.Errorf("P11: %d goroutines were there, and %d behind Checkpoint", before, runtime.NumGoroutine())
}

// checkOwnFiles: what Files tells can be written into, spare room too, and is told again as it was.
func checkOwnFiles(t *testing.T, s *Store) {
	t.Helper()
	want := fmt.Sprintf("%q", s.Files())
	mine, other := s.Files(), s.Files()
	for _, f := range mine {
		for _, text := range []string{f.Name, f.Data} {
			if len(text) > 0 {
				*unsafe.StringData(text) = 'x'
			}
		}
	}
	for i := range mine[:cap(mine)] {
		mine[:cap(mine)][i] = api.File{Name: "mine"}
	}
	for _, l := range [][]api.File{other, s.Files()} {
		if fmt.Sprintf("%q", l) != want || slices.Contains(l[:cap(l)], api.File{Name: "mine"}) {
			t.Errorf("P2: lists of Files share memory: %q, want %s", l[:cap(l)], want)
		}
	}
}
