package warden

import (
	"fmt"
	"math"
	"slices"
	"strings"
	"testing"

	"warden/api"
)

func checkOpen(t *testing.T, schema string, files []api.File, o api.Options, want api.Errno) {
	t.Helper()
	if s, e := Open(schema, files, o); e != want || (s == nil) != (want != api.OK) {
		t.Errorf("P6: Open(%.80q, %.200q, %+v) = %v, %d, want %d", schema, files, o, s, e, want)
	}
}

func TestOpenNewStore(t *testing.T) {
	for _, schema := range []string{"", "\n", "// nothing", "type t", schemaA} {
		s := newStore(t, schema)
		checkRevision(t, s, 0, 0)
		checkRead(t, s, "")
	}
	checkOpen(t, schemaA, []api.File{}, quiet, api.OK)
}

func TestOpenErrorOfSchema(t *testing.T) {
	twice := []api.File{{Name: "x"}, {Name: "x"}}
	for _, text := range []string{
		strings.Repeat("\n", 2001), "type", "rel a self", schemaA + "\ntype page", withViewer("self | editor"), withViewer("self - viewer"), lines(names(7, "type", "")...),
	} {
		_, want := Schema(text)
		checkOpen(t, text, nil, quiet, want)
		checkOpen(t, text, twice, api.Options{Crash: -2}, want)
	}
}

func TestOpenFilesOfOneName(t *testing.T) {
	named := func(l ...string) []api.File {
		var files []api.File
		for i, name := range l {
			files = append(files, api.File{Name: name, Data: fmt.Sprint(i)})
		}
		return files
	}
	for _, l := range [][]string{
		{"", ""}, {"x", "x"}, {"x", "y", "x"}, {"a", "b", "c", "d", "c"}, {"MANIFEST", "c0", "l0", "MANIFEST"}, {"é", "x", "é"}, slices.Repeat([]string{"x"}, 50),
	} {
		checkOpen(t, schemaA, named(l...), quiet, api.ErrDisk)
		checkOpen(t, schemaA, named(l...), api.Options{Crash: -2, Full: -2, Keeps: []int{-1}, Dirs: -1}, api.ErrDisk)
	}
	for _, l := range [][]string{{""}, {"x"}, {"x", "X"}, {"x", "xx", "", "x\x00"}, {"c0", "c00", "l0"}} {
		checkOpen(t, schemaA, named(l...), quiet, api.OK)
	}
	// The same bytes under two names are two files.
	checkOpen(t, schemaA, []api.File{{Name: "x", Data: "same"}, {Name: "y", Data: "same"}}, quiet, api.OK)
}

func TestOpenManyFiles(t *testing.T) {
	var files []api.File
	for i := range 100000 {
		files = append(files, api.File{Name: fmt.Sprint(i * 7919 % 100000)})
	}
	checkOpen(t, schemaA, files, quiet, api.OK)
	checkOpen(t, schemaA, append(files, api.File{Name: "4711"}), quiet, api.ErrDisk)
}

func TestOpenOptions(t *testing.T) {
	far := math.MaxInt
	for _, o := range []api.Options{
		quiet,
		{Crash: api.Never, Full: api.Never, Keeps: []int{}, Dirs: 0},
		{Crash: far, Full: far, Keeps: []int{0, 1, far}, Dirs: far},
		{Crash: api.Never, Full: far, Keeps: []int{0}, Dirs: 1},
		{Crash: far, Full: api.Never},
	} {
		checkOpen(t, schemaA, nil, o, api.OK)
	}
	for _, low := range []int{-2, -3, math.MinInt} {
		checkOpen(t, schemaA, nil, api.Options{Crash: low, Full: api.Never}, api.ErrOption)
		checkOpen(t, schemaA, nil, api.Options{Crash: api.Never, Full: low}, api.ErrOption)
	}
	for _, low := range []int{-1, -2, math.MinInt} {
		checkOpen(t, schemaA, nil, api.Options{Crash: api.Never, Full: api.Never, Dirs: low}, api.ErrOption)
		for _, keeps := range [][]int{{low}, {low, 0}, {0, low}, {1, 2, low, 3}} {
			checkOpen(t, schemaA, nil, api.Options{Crash: api.Never, Full: api.Never, Keeps: keeps}, api.ErrOption)
		}
	}
}

func TestStoresBesideOneAnother(t *testing.T) {
	s, u := newStore(t, schemaA), newStore(t, "type page\nrel viewer self")
	putIn(t, s, "page:1#owner@user:ann")
	checkWrite(t, u, api.Tx{Put: []string{"page:1#owner@user:ann"}}, 0, api.ErrFit)
	checkWrite(t, u, api.Tx{Put: []string{"page:1#viewer@page:2"}}, 1, api.OK)
	checkWrite(t, s, api.Tx{Drop: []string{"page:1#viewer@page:2"}}, 2, api.OK)
	checkRead(t, s, "", "page:1#owner@user:ann")
	checkRead(t, u, "", "page:1#viewer@page:2")
	checkRevision(t, s, 2, 0)
	checkRevision(t, u, 1, 0)
	checkIn(t, s, true, "page:1#viewer@user:ann")
	checkIn(t, u, true, "page:1#viewer@page:2")
}
