package disk

import (
	"slices"
	"testing"
	"unsafe"

	"warden/api"
)

// quiet: power is never lost, and there is always room.
var quiet = api.Options{Crash: api.Never, Full: api.Never}

// files: of name, bytes, name, bytes, ..
func files(l ...string) []api.File {
	var all []api.File
	for pair := range slices.Chunk(l, 2) {
		all = append(all, api.File{Name: pair[0], Data: pair[1]})
	}
	return all
}

func diskOf(t *testing.T, o api.Options, l ...string) *Disk {
	t.Helper()
	d, ok := New(files(l...), o)
	if !ok {
		t.Fatalf("there can be no disk of %q", l)
	}
	return d
}

func TestOperations(t *testing.T) {
	for _, c := range []struct {
		why  string
		do   []Operation
		want []string
	}{
		{"nothing", nil, []string{"a", "12345", "b", ""}},
		{"create", []Operation{{Kind: Create, Name: "aa"}}, []string{"a", "12345", "aa", "", "b", ""}},
		{"create where a file is", []Operation{{Kind: Create, Name: "a"}}, []string{"a", "", "b", ""}},
		{"append", []Operation{{Kind: Append, Name: "a", Bytes: "67"}, {Kind: Append, Name: "b", Bytes: "\x00\xff"}, {Kind: Append, Name: "a", Bytes: "8"}}, []string{"a", "12345678", "b", "\x00\xff"}},
		{"append nothing", []Operation{{Kind: Append, Name: "a"}}, []string{"a", "12345", "b", ""}},
		{"cut", []Operation{{Kind: Cut, Name: "a", Length: 3}}, []string{"a", "123", "b", ""}},
		{"cut all", []Operation{{Kind: Cut, Name: "a", Length: 0}}, []string{"a", "", "b", ""}},
		{"cut nothing", []Operation{{Kind: Cut, Name: "a", Length: 5}}, []string{"a", "12345", "b", ""}},
		{"cut behind the end", []Operation{{Kind: Cut, Name: "a", Length: 6}, {Kind: Cut, Name: "b", Length: 1}}, []string{"a", "12345", "b", ""}},
		{"cut ahead of the beginning", []Operation{{Kind: Cut, Name: "a", Length: -1}}, []string{"a", "", "b", ""}},
		{"append where it was cut", []Operation{{Kind: Cut, Name: "a", Length: 2}, {Kind: Append, Name: "a", Bytes: "x"}}, []string{"a", "12x", "b", ""}},
		{"sync", []Operation{{Kind: Sync, Name: "a"}, {Kind: SyncDir}}, []string{"a", "12345", "b", ""}},
		{"rename", []Operation{{Kind: Rename, Name: "a", To: "c"}}, []string{"b", "", "c", "12345"}},
		{"rename onto another one", []Operation{{Kind: Rename, Name: "a", To: "b"}}, []string{"b", "12345"}},
		{"rename to itself", []Operation{{Kind: Rename, Name: "a", To: "a"}}, []string{"a", "12345", "b", ""}},
		{"rename, and go on", []Operation{{Kind: Rename, Name: "a", To: "c"}, {Kind: Append, Name: "c", Bytes: "6"}, {Kind: Create, Name: "a"}}, []string{"a", "", "b", "", "c", "123456"}},
		{"remove", []Operation{{Kind: Remove, Name: "a"}}, []string{"b", ""}},
		{"remove all", []Operation{{Kind: Remove, Name: "a"}, {Kind: Remove, Name: "b"}}, nil},
		{"remove, and create anew", []Operation{{Kind: Remove, Name: "a"}, {Kind: Create, Name: "a"}}, []string{"a", "", "b", ""}},
	} {
		d := diskOf(t, quiet, "b", "", "a", "12345")
		for _, o := range c.do {
			d.Do(o)
		}
		if got := d.Files(); !slices.Equal(got, files(c.want...)) {
			t.Errorf("%s: files %q, want %q", c.why, got, c.want)
		}
	}
}

func TestNamesThatAreNotThere(t *testing.T) {
	d := diskOf(t, quiet, "a", "12345")
	for kind := Append; kind <= Remove; kind++ {
		d.Do(Operation{Kind: kind, Name: "b", Bytes: "x", To: "c"})
	}
	if got := d.Files(); !slices.Equal(got, files("a", "12345")) {
		t.Errorf("files %q", got)
	}
	if data, found := d.Read("b"); data != "" || found {
		t.Errorf("Read of no file: %q, %v", data, found)
	}
}

func TestReadAndNames(t *testing.T) {
	d := diskOf(t, quiet, "b", "2", "", "0", "a", "", "ab", "\n")
	if got := d.Names(); !slices.Equal(got, []string{"", "a", "ab", "b"}) {
		t.Errorf("names %q", got)
	}
	for name, want := range map[string]string{"b": "2", "": "0", "a": "", "ab": "\n"} {
		if data, found := d.Read(name); data != want || !found {
			t.Errorf("Read(%q) = %q, %v, want %q", name, data, found, want)
		}
	}
}

func TestTwoFilesOfOneName(t *testing.T) {
	for _, l := range [][]string{{"a", "1", "a", "1"}, {"", "", "", ""}, {"a", "", "b", "", "c", "", "b", "x"}} {
		if d, ok := New(files(l...), quiet); ok || d != nil {
			t.Errorf("P6: a disk of %q: %v, %v", l, d, ok)
		}
	}
}

func TestDiskHasCopies(t *testing.T) {
	name, data := []byte("name"), []byte("data")
	d := diskOf(t, quiet, unsafe.String(&name[0], 4), unsafe.String(&data[0], 4))
	name[0], data[0] = 'x', 'x'
	want := files("name", "data")
	first := d.Files()
	if !slices.Equal(first, want) {
		t.Errorf("P2: the disk keeps what was handed in: %q", first)
	}
	*unsafe.StringData(first[0].Name), *unsafe.StringData(first[0].Data) = 'y', 'y'
	if got := d.Files(); !slices.Equal(got, want) {
		t.Errorf("P2: the disk has handed out what it keeps: %q", got)
	}
}
