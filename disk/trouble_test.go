package disk

import (
	"math"
	"slices"
	"testing"

	"warden/api"
)

const far = math.MaxInt

// Short ways to write operations.

func create(name string) Operation { return Operation{Kind: Create, Name: name} }

func remove(name string) Operation { return Operation{Kind: Remove, Name: name} }

func rename(name, to string) Operation { return Operation{Kind: Rename, Name: name, To: to} }

func put(name, bytes string) Operation { return Operation{Kind: Append, Name: name, Bytes: bytes} }

func cut(name string, length int) Operation {
	return Operation{Kind: Cut, Name: name, Length: length}
}

func sync(name string) Operation { return Operation{Kind: Sync, Name: name} }

var syncDir = Operation{Kind: SyncDir}

// checkLost: power is lost behind some operations on a disk with two files.
func checkLost(t *testing.T, why string, do []Operation, dirs int, keeps []int, want ...string) {
	t.Helper()
	d := diskOf(t, api.Options{Crash: len(do), Full: api.Never, Dirs: dirs, Keeps: keeps}, "b", "xyz", "a", "12345")
	for _, o := range do {
		d.Do(o)
	}
	if e := d.Trouble(); e != api.OK {
		t.Errorf("P14: %s: trouble %d ahead of its operation", why, e)
	}
	d.Do(create("c"))
	for range 2 {
		if got := d.Files(); !slices.Equal(got, files(want...)) || d.Trouble() != api.ErrLost {
			t.Errorf("P13: %s, %d steps, keeps %d: files %q, trouble %d, want %q", why, dirs, keeps, got, d.Trouble(), want)
		}
		for _, o := range []Operation{create("d"), put("a", "6"), sync("a"), cut("a", 0), rename("a", "e"), remove("a"), syncDir} {
			d.Do(o)
		}
	}
}

func TestBytesThatAreSafe(t *testing.T) {
	first := []string{"a", "12345", "b", "xyz"}
	checkLost(t, "nothing", nil, 0, nil, first...)
	checkLost(t, "nothing", nil, far, []int{far}, first...)
	long := []Operation{put("a", "67"), put("b", "!"), put("a", "8")}
	checkLost(t, "append", long, 0, nil, first...)
	checkLost(t, "append", long, 0, []int{}, first...)
	checkLost(t, "append", long, 0, []int{0}, first...)
	checkLost(t, "append", long, 0, []int{1}, "a", "123456", "b", "xyz!")
	checkLost(t, "append", long, 0, []int{0, 1}, "a", "12345", "b", "xyz!")
	checkLost(t, "append", long, 0, []int{2, 0}, "a", "1234567", "b", "xyz")
	checkLost(t, "append", long, 0, []int{3, 1}, "a", "12345678", "b", "xyz!")
	checkLost(t, "append", long, 0, []int{4, 2}, "a", "12345678", "b", "xyz!")
	checkLost(t, "append", long, 0, []int{far}, "a", "12345678", "b", "xyz!")
	checkLost(t, "append", long, 0, []int{1, 0, far, far}, "a", "123456", "b", "xyz")
	synced := []Operation{put("a", "67"), put("b", "!"), sync("a"), put("a", "8")}
	checkLost(t, "sync", synced, 0, nil, "a", "1234567", "b", "xyz")
	checkLost(t, "sync", synced, 0, []int{1}, "a", "12345678", "b", "xyz!")
	checkLost(t, "cut below what is safe", []Operation{cut("a", 2)}, 0, nil, "a", "12", "b", "xyz")
	checkLost(t, "cut to nothing", []Operation{cut("a", 0)}, 0, []int{far}, "a", "", "b", "xyz")
	again := []Operation{cut("a", 2), put("a", "67")}
	checkLost(t, "cut, then append", again, 0, nil, "a", "12", "b", "xyz")
	checkLost(t, "cut, then append", again, 0, []int{1}, "a", "126", "b", "xyz")
	checkLost(t, "cut, append, sync", append(again, sync("a")), 0, nil, "a", "1267", "b", "xyz")
	checkLost(t, "cut above what is safe", []Operation{put("a", "678"), cut("a", 7)}, 0, nil, first...)
	checkLost(t, "cut above what is safe", []Operation{put("a", "678"), cut("a", 7)}, 0, []int{far}, "a", "1234567", "b", "xyz")
	checkLost(t, "the directory alone is safe", append(long, syncDir), 0, nil, first...)
}

func TestStepsThatAreSafe(t *testing.T) {
	made := []Operation{create("c"), put("c", "new"), sync("c"), remove("a"), rename("b", "d")}
	checkLost(t, "steps", made, 0, []int{far}, "a", "12345", "b", "xyz")
	checkLost(t, "steps", made, 1, nil, "a", "12345", "b", "xyz", "c", "new")
	checkLost(t, "steps", made, 2, nil, "b", "xyz", "c", "new")
	checkLost(t, "steps", made, 3, nil, "c", "new", "d", "xyz")
	checkLost(t, "steps", made, 4, nil, "c", "new", "d", "xyz")
	checkLost(t, "steps", made, far, nil, "c", "new", "d", "xyz")
	safe := slices.Concat(made, []Operation{syncDir})
	checkLost(t, "all steps are safe", safe, 0, nil, "c", "new", "d", "xyz")
	more := slices.Concat(safe, []Operation{remove("c"), create("a"), put("a", "6")})
	checkLost(t, "steps behind safe ones", more, 0, []int{far}, "c", "new", "d", "xyz")
	checkLost(t, "steps behind safe ones", more, 1, []int{far}, "d", "xyz")
	checkLost(t, "steps behind safe ones", more, 2, nil, "a", "", "d", "xyz")
	checkLost(t, "steps behind safe ones", more, 2, []int{far}, "a", "6", "d", "xyz")
	checkLost(t, "safe twice", slices.Concat(more, []Operation{syncDir, syncDir}), 0, nil, "a", "", "d", "xyz")
}

func TestCreatedAnew(t *testing.T) {
	over := []Operation{create("a"), put("a", "6"), sync("a"), put("a", "7")}
	checkLost(t, "created over a file", over, 0, []int{far}, "a", "12345", "b", "xyz")
	checkLost(t, "created over a file", over, 1, nil, "a", "6", "b", "xyz")
	checkLost(t, "created over a file", over, 1, []int{far}, "a", "67", "b", "xyz")
	checkLost(t, "created over a file, safe", append(over, syncDir), 0, nil, "a", "6", "b", "xyz")
	twice := []Operation{remove("a"), create("a"), put("a", "6"), create("a"), put("a", "7"), sync("a")}
	checkLost(t, "created anew twice", twice, 0, []int{far}, "a", "12345", "b", "xyz")
	checkLost(t, "created anew twice", twice, 1, []int{far}, "b", "xyz")
	checkLost(t, "created anew twice", twice, 2, []int{far}, "a", "6", "b", "xyz")
	checkLost(t, "created anew twice", twice, 2, nil, "a", "", "b", "xyz")
	checkLost(t, "created anew twice", twice, 3, nil, "a", "7", "b", "xyz")
	behind := []Operation{put("a", "6"), create("a")}
	checkLost(t, "appended to, then created anew", behind, 0, []int{far}, "a", "123456", "b", "xyz")
	checkLost(t, "appended to, then created anew", behind, 0, nil, "a", "12345", "b", "xyz")
}

func TestRenamedAndRemoved(t *testing.T) {
	onto := []Operation{create("c"), put("c", "new"), sync("c"), put("c", "er"), syncDir, rename("c", "a"), put("a", "!")}
	checkLost(t, "renamed onto another one", onto, 0, nil, "a", "12345", "b", "xyz", "c", "new")
	checkLost(t, "renamed onto another one", onto, 0, []int{far}, "a", "12345", "b", "xyz", "c", "newer!")
	checkLost(t, "renamed onto another one", onto, 1, nil, "a", "new", "b", "xyz")
	checkLost(t, "renamed onto another one", onto, 1, []int{1}, "a", "newe", "b", "xyz")
	round := []Operation{rename("a", "c"), rename("b", "a"), rename("c", "b")}
	checkLost(t, "renamed in a round", round, 0, nil, "a", "12345", "b", "xyz")
	checkLost(t, "renamed in a round", round, 1, nil, "b", "xyz", "c", "12345")
	checkLost(t, "renamed in a round", round, 2, nil, "a", "xyz", "c", "12345")
	checkLost(t, "renamed in a round", round, 3, nil, "a", "xyz", "b", "12345")
	moved := []Operation{rename("a", "c"), put("c", "6"), sync("c")}
	checkLost(t, "made safe under another name", moved, 0, nil, "a", "123456", "b", "xyz")
	gone := []Operation{put("a", "6"), remove("a"), remove("b")}
	checkLost(t, "removed", gone, 0, []int{far}, "a", "123456", "b", "xyz")
	checkLost(t, "removed", gone, 1, []int{far}, "b", "xyz")
	checkLost(t, "removed", gone, 2, []int{far})
	checkLost(t, "removed, safe", append(gone, syncDir), 0, []int{far})
	short := []Operation{cut("a", 1), remove("a")}
	checkLost(t, "cut, then removed", short, 0, []int{far}, "a", "1", "b", "xyz")
}

// By rising names of what is left, whatever the order in which they came.
func TestKeepsGoByNames(t *testing.T) {
	do := []Operation{create("z"), create("aa"), put("z", "123"), put("aa", "123"), put("a", "678"), put("b", "123")}
	checkLost(t, "four files", do, 2, []int{0, 1, 2, 3}, "a", "12345", "aa", "1", "b", "xyz12", "z", "123")
	checkLost(t, "three files", do, 1, []int{0, 1, 2, 3}, "a", "12345", "b", "xyz1", "z", "12")
	checkLost(t, "two numbers for four files", do, 2, []int{1, 2}, "a", "123456", "aa", "12", "b", "xyz1", "z", "12")
}

func TestNoRoom(t *testing.T) {
	do := []Operation{put("a", "6"), sync("a"), cut("a", 3), rename("a", "c"), remove("b"), syncDir, create("d"), put("d", "1"), sync("d")}
	for full, want := range map[int][]string{
		0: {"a", "12345", "b", "xyz"},
		1: {"c", "123"}, 2: {"c", "123"}, 5: {"c", "123"}, 6: {"c", "123"},
		7: {"c", "123", "d", ""},
		8: {"c", "123", "d", "1"}, 9: {"c", "123", "d", "1"}, far: {"c", "123", "d", "1"}, api.Never: {"c", "123", "d", "1"},
	} {
		d := diskOf(t, api.Options{Crash: api.Never, Full: full}, "b", "xyz", "a", "12345")
		for _, o := range do {
			d.Do(o)
		}
		trouble := api.OK
		if full >= 0 && full < 8 {
			trouble = api.ErrFull
		}
		if got := d.Files(); !slices.Equal(got, files(want...)) || d.Trouble() != trouble {
			t.Errorf("P14: no room from %d on: files %q, trouble %d, want %q, %d", full, got, d.Trouble(), want, trouble)
		}
	}
}

func TestTroubleThatComesFirst(t *testing.T) {
	for _, c := range []struct {
		lost, full int
		want       api.Errno
	}{
		{0, 0, api.ErrLost}, {1, 1, api.ErrLost}, {1, 0, api.ErrFull}, {0, 1, api.ErrLost}, {2, 1, api.ErrLost}, {3, 1, api.ErrFull}, {3, 2, api.ErrFull}, {2, 3, api.ErrLost}, {3, 3, api.OK},
	} {
		d := diskOf(t, api.Options{Crash: c.lost, Full: c.full})
		for _, o := range []Operation{create("a"), sync("a"), put("a", "1")} {
			d.Do(o)
		}
		if got := d.Trouble(); got != c.want {
			t.Errorf("P14: power till %d, no room from %d on: %d, want %d", c.lost, c.full, got, c.want)
		}
	}
}

func TestDiskKeepsNoList(t *testing.T) {
	keeps := []int{2, 2}
	d := diskOf(t, api.Options{Crash: 1, Full: api.Never, Keeps: keeps}, "a", "1")
	keeps[0], keeps[1] = 0, 0
	d.Do(put("a", "2345"))
	d.Do(sync("a"))
	if got := d.Files(); !slices.Equal(got, files("a", "123")) {
		t.Errorf("P2: files %q", got)
	}
}
