package epochs

import (
	"slices"
	"strconv"
	"strings"
	"testing"

	"warden/api"
	"warden/disk"
	"warden/frame"
	"warden/schemas"
)

// noting is a disk that notes what is done on it.
type noting struct {
	*disk.Disk
	done []string
}

func (n *noting) Do(o disk.Operation) {
	n.Disk.Do(o)
	note := ""
	switch o.Kind {
	case disk.Create:
		note = "CREATE " + o.Name
	case disk.Append:
		payloads, length := frame.ReadAll(o.Bytes)
		note = "APPEND " + o.Name + ": " + strings.Join(payloads, ", ")
		if length < len(o.Bytes) {
			note += " and what is no frame"
		}
	case disk.Cut:
		note = "CUT " + o.Name + " to " + strconv.Itoa(o.Length)
	case disk.Sync:
		note = "SYNC " + o.Name
	case disk.Rename:
		note = "RENAME " + o.Name + " to " + o.To
	case disk.Remove:
		note = "REMOVE " + o.Name
	case disk.SyncDir:
		note = "SYNCDIR"
	}
	n.done = append(n.done, note)
}

// check holds what was done since the last check against what should have been.
func (n *noting) check(t *testing.T, why string, want ...string) {
	t.Helper()
	if !slices.Equal(n.done, want) {
		t.Errorf("%s: the operations are\n%s\nwant\n%s", why, strings.Join(n.done, "\n"), strings.Join(want, "\n"))
	}
	n.done = nil
}

func framesOf(payloads ...string) string {
	all := ""
	for _, p := range payloads {
		framed, _ := frame.Make(p)
		all += framed
	}
	return all
}

const (
	one = "t:1#a@t:9"
	two = "t:2#a@t:9"
)

var quiet = api.Options{Crash: api.Never, Full: api.Never}

// keep opens what lies on a disk of name, bytes, name, bytes, ..
func keep(t *testing.T, o api.Options, l ...string) (*Keeper, *noting, api.Errno) {
	t.Helper()
	var files []api.File
	for pair := range slices.Chunk(l, 2) {
		files = append(files, api.File{Name: pair[0], Data: pair[1]})
	}
	schema, _, e := schemas.Parse("type t\nrel a self")
	d, ok := disk.New(files, o)
	if e != api.OK || !ok {
		t.Fatalf("P6: %d, %v", e, ok)
	}
	n := &noting{Disk: d}
	k, e := Open(schema, n)
	return k, n, e
}

func opened(t *testing.T, l ...string) (*Keeper, *noting) {
	t.Helper()
	k, n, e := keep(t, quiet, l...)
	if e != api.OK {
		t.Fatalf("P12: Open of %q: %d", l, e)
	}
	return k, n
}

func write(t *testing.T, k *Keeper, x api.Tx) {
	t.Helper()
	if _, e := k.Write(x); e != api.OK {
		t.Fatalf("P7: Write(%q): %d", x, e)
	}
}

// begun: what is done for a new store.
var begun = []string{"CREATE c0", "APPEND c0: 0", "APPEND c0: end", "SYNC c0", "CREATE l0", "SYNC l0", "SYNCDIR", "CREATE MANIFEST~", "APPEND MANIFEST~: 0", "SYNC MANIFEST~", "RENAME MANIFEST~ to MANIFEST", "SYNCDIR"}

func TestOperationsOfANewStore(t *testing.T) {
	_, n := opened(t)
	n.check(t, "P12: no files", begun...)
	_, n = opened(t, "l0", "x", "c0", "", "z", "y", "MANIFEST~", framesOf("0"))
	n.check(t, "P12: files, but no manifest", append([]string{"REMOVE MANIFEST~", "REMOVE c0", "REMOVE l0", "REMOVE z", "SYNCDIR"}, begun...)...)
}

func TestOperationsOfFlush(t *testing.T) {
	k, n := opened(t)
	n.done = nil
	k.Flush()
	n.check(t, "P10: nothing to make safe")
	write(t, k, api.Tx{Put: []string{two, one}})
	write(t, k, api.Tx{})
	write(t, k, api.Tx{Put: []string{two}, Drop: []string{one}})
	n.check(t, "P7: transactions")
	k.Flush()
	n.check(t, "P10: three transactions", "APPEND l0: 1\n+"+two+"\n+"+one+", 2, 3\n+"+two+"\n-"+one, "SYNC l0")
	k.Flush()
	n.check(t, "P10: once more")
	write(t, k, api.Tx{Not: []string{one}})
	k.Flush()
	n.check(t, "P10: one more transaction", "APPEND l0: 4", "SYNC l0")
}

func TestOperationsOfCheckpoint(t *testing.T) {
	k, n := opened(t)
	write(t, k, api.Tx{Put: []string{two, one}})
	n.done = nil
	k.Checkpoint()
	n.check(t, "P11: with a transaction that is not safe",
		"APPEND l0: 1\n+"+two+"\n+"+one, "SYNC l0",
		"CREATE c1", "APPEND c1: 1", "APPEND c1: "+one, "APPEND c1: "+two, "APPEND c1: end", "SYNC c1", "CREATE l1", "SYNC l1", "SYNCDIR",
		"CREATE MANIFEST~", "APPEND MANIFEST~: 1", "SYNC MANIFEST~", "RENAME MANIFEST~ to MANIFEST", "SYNCDIR",
		"REMOVE c0", "REMOVE l0", "SYNCDIR")
	write(t, k, api.Tx{Drop: []string{one, two}})
	k.Flush()
	n.check(t, "P10: behind it", "APPEND l1: 2\n-"+one+"\n-"+two, "SYNC l1")
	k.Checkpoint()
	n.check(t, "P11: with nothing to make safe",
		"CREATE c2", "APPEND c2: 2", "APPEND c2: end", "SYNC c2", "CREATE l2", "SYNC l2", "SYNCDIR",
		"CREATE MANIFEST~", "APPEND MANIFEST~: 2", "SYNC MANIFEST~", "RENAME MANIFEST~ to MANIFEST", "SYNCDIR",
		"REMOVE c1", "REMOVE l1", "SYNCDIR")
}

func TestOperationsBehindTheLastEpoch(t *testing.T) {
	k, n := opened(t, "MANIFEST", framesOf("999999999"), "c999999999", framesOf("7", "end"), "l999999999", "")
	k.Checkpoint()
	n.check(t, "P11: behind the last epoch",
		"CREATE c0", "APPEND c0: 7", "APPEND c0: end", "SYNC c0", "CREATE l0", "SYNC l0", "SYNCDIR",
		"CREATE MANIFEST~", "APPEND MANIFEST~: 0", "SYNC MANIFEST~", "RENAME MANIFEST~ to MANIFEST", "SYNCDIR",
		"REMOVE c999999999", "REMOVE l999999999", "SYNCDIR")
}

func TestOperationsOfOpen(t *testing.T) {
	manifest, checkpoint, log := framesOf("5"), framesOf("7", one, "end"), framesOf("8", "9\n-"+one)
	_, n := opened(t, "MANIFEST", manifest, "c5", checkpoint, "l5", log)
	n.check(t, "P12: nothing to mend")
	_, n = opened(t, "MANIFEST", manifest, "c5", checkpoint, "l5", log+"torn")
	n.check(t, "P12: a torn log", "CUT l5 to "+strconv.Itoa(len(log)), "SYNC l5")
	_, n = opened(t, "l6", "x", "MANIFEST", manifest, "c5", checkpoint, "l5", log, "c05", "", "MANIFEST~", manifest, "", "y")
	n.check(t, "P12: more files", "REMOVE ", "REMOVE MANIFEST~", "REMOVE c05", "REMOVE l6", "SYNCDIR")
	_, n = opened(t, "MANIFEST", manifest, "c5", checkpoint, "l5", "torn", "z", "")
	n.check(t, "P12: both", "CUT l5 to 0", "SYNC l5", "REMOVE z", "SYNCDIR")
}

func TestOpenOfWhatIsCorruptDoesNothing(t *testing.T) {
	for _, l := range [][]string{
		{"MANIFEST", "", "x", ""},
		{"MANIFEST", framesOf("5"), "l5", "torn", "x", ""},
		{"MANIFEST", framesOf("5"), "c5", framesOf("7", "end"), "x", ""},
		{"MANIFEST", framesOf("5"), "c5", framesOf("7", "end"), "l5", framesOf("9") + "torn", "x", ""},
	} {
		k, n, e := keep(t, quiet, l...)
		if k != nil || e != api.ErrCorrupt {
			t.Errorf("P12: Open of %q: %v, %d", l, k, e)
		}
		n.check(t, "P12: what is corrupt")
	}
}

func TestOpenInTrouble(t *testing.T) {
	torn := []string{"MANIFEST", framesOf("5"), "c5", framesOf("7", "end"), "l5", "torn", "x", ""}
	for _, c := range []struct {
		o     api.Options
		files []string
		want  api.Errno
	}{
		{api.Options{Crash: 0, Full: api.Never}, nil, api.ErrLost},
		{api.Options{Crash: 11, Full: api.Never}, nil, api.ErrLost},
		{api.Options{Crash: api.Never, Full: 0}, nil, api.ErrFull},
		{api.Options{Crash: api.Never, Full: 8}, nil, api.ErrFull},
		{api.Options{Crash: 0, Full: api.Never}, torn, api.ErrLost},
		{api.Options{Crash: 3, Full: api.Never}, torn, api.ErrLost},
		{api.Options{Crash: 0, Full: 0}, torn[:4], api.ErrCorrupt},
	} {
		if k, _, e := keep(t, c.o, c.files...); k != nil || e != c.want {
			t.Errorf("P14: Open of %q with %+v: %v, %d, want %d", c.files, c.o, k, e, c.want)
		}
	}
	for _, o := range []api.Options{{Crash: 12, Full: api.Never}, {Crash: api.Never, Full: 9}} {
		if k, _, e := keep(t, o); k == nil || e != api.OK {
			t.Errorf("P14: Open with %+v: %v, %d", o, k, e)
		}
	}
}

func TestWhatIsSafeInTrouble(t *testing.T) {
	for _, c := range []struct {
		o          api.Options
		flush      bool
		want       api.Errno
		safe, asks int
	}{
		{api.Options{Crash: 12, Full: api.Never}, true, api.ErrLost, 0, 2},
		{api.Options{Crash: 13, Full: api.Never}, true, api.ErrLost, 0, 2},
		{api.Options{Crash: 14, Full: api.Never}, true, api.OK, 1, 2},
		{api.Options{Crash: api.Never, Full: 12}, true, api.ErrFull, 0, 2},
		{api.Options{Crash: api.Never, Full: 12}, false, api.ErrFull, 0, 2},
		{api.Options{Crash: 13, Full: api.Never}, false, api.ErrLost, 0, 2},
		{api.Options{Crash: 14, Full: api.Never}, false, api.ErrLost, 1, 18},
		{api.Options{Crash: api.Never, Full: 13}, false, api.ErrFull, 1, 18},
		{api.Options{Crash: api.Never, Full: 23}, false, api.ErrFull, 1, 18},
		{api.Options{Crash: 30, Full: 24}, false, api.OK, 1, 18},
	} {
		k, n, e := keep(t, c.o)
		if e != api.OK {
			t.Fatalf("P14: Open with %+v: %d", c.o, e)
		}
		write(t, k, api.Tx{Put: []string{one}})
		n.done = nil
		if c.flush {
			e = k.Flush()
		} else {
			e = k.Checkpoint()
		}
		if e != c.want || k.Safe() != c.safe || k.State().Revision() != 1 || len(n.done) != c.asks {
			t.Errorf("P14: with %+v: %d, safe %d, revision %d, %d operations were asked for; want %d, %d, 1, %d", c.o, e, k.Safe(), k.State().Revision(), len(n.done), c.want, c.safe, c.asks)
		}
	}
}
