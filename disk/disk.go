// Package disk: files and a directory of their names, and the operations that change them.
package disk

import (
	"slices"
	"strings"

	"warden/api"
	"warden/ordered"
)

// Kind is what an operation does.
type Kind int

const (
	Create Kind = iota
	Append
	Cut
	Sync
	Rename
	Remove
	SyncDir
)

// Operation is one operation of a disk. What it needs beside its kind hangs on that.
type Operation struct {
	Kind   Kind
	Name   string // of the file; of no meaning to SyncDir
	Bytes  string // what Append puts behind the file's bytes
	Length int    // how many bytes Cut leaves
	To     string // the name that Rename gives
}

// Disk has files under names.
type Disk struct {
	files ordered.List[string, *file]
}

type file struct {
	bytes []byte
}

// New is a disk with copies of some files; false if two of them have one name.
func New(files []api.File) (*Disk, bool) {
	d := &Disk{}
	// By rising names, because the directory takes in fastest what comes last in it.
	for _, f := range slices.SortedFunc(slices.Values(files), byName) {
		if d.files.Has(f.Name) {
			return nil, false
		}
		d.files.Put(strings.Clone(f.Name), &file{[]byte(f.Data)})
	}
	return d, true
}

func byName(a, b api.File) int { return strings.Compare(a.Name, b.Name) }

// Do does an operation. On a name that is not there it does nothing.
func (d *Disk) Do(o Operation) {
	f, found := d.files.Get(o.Name)
	switch {
	case o.Kind == Create:
		d.files.Put(o.Name, &file{})
	case !found:
		return
	case o.Kind == Append:
		f.bytes = append(f.bytes, o.Bytes...)
	case o.Kind == Cut:
		f.bytes = f.bytes[:max(0, min(o.Length, len(f.bytes)))]
	case o.Kind == Rename:
		d.files.Drop(o.Name)
		d.files.Put(o.To, f)
	case o.Kind == Remove:
		d.files.Drop(o.Name)
	}
	// Sync and SyncDir are not seen as long as nothing happens to the disk.
}

// Names are those of the directory, in rising order.
func (d *Disk) Names() []string {
	var names []string
	for name := range d.files.All() {
		names = append(names, name)
	}
	return names
}

// Read has the bytes of a file; false if there is none of this name.
func (d *Disk) Read(name string) (string, bool) {
	f, found := d.files.Get(name)
	if !found {
		return "", false
	}
	return string(f.bytes), true
}

// Files are copies of all files, by rising names.
func (d *Disk) Files() []api.File {
	var files []api.File
	for name, f := range d.files.All() {
		files = append(files, api.File{Name: strings.Clone(name), Data: string(f.bytes)})
	}
	return files
}
