// Package disk: files and a directory of their names, and the operations that change them.
package disk

import (
	"slices"
	"strings"

	"warden/api"
	"warden/ordered"
)

// Kind is what an operation does.
type Kind int

const (
	Create Kind = iota
	Append
	Cut
	Sync
	Rename
	Remove
	SyncDir
)

// Operation is one operation of a disk. What it needs beside its kind hangs on that.
type Operation struct {
	Kind   Kind
	Name   string // of the file; of no meaning to SyncDir
	Bytes  string // what Append puts behind the file's bytes
	Length int    // how many bytes Cut leaves
	To     string // the name that Rename gives
}

// Disk has files under names. As soon as power is lost on it, or there is no room, it does nothing any more.
type Disk struct {
	files   directory
	safe    directory // the names as they were when they were last made safe
	steps   []step    // those of the directory behind that
	fate    api.Options
	done    int // the number of the next operation
	trouble api.Errno
}

type directory = ordered.List[string, *file]

type file struct {
	bytes []byte
	safe  int // how many of them are, from the first one on
}

// step is an operation that changes the directory, and the file that it is about: a name may have another one later.
type step struct {
	Operation
	file *file
}

// New is a disk with copies of some files, all of it safe, to which happens what options say; false if two of the files have one name.
func New(files []api.File, o api.Options) (*Disk, bool) {
	d := &Disk{fate: o}
	d.fate.Keeps = slices.Clone(o.Keeps)
	// By rising names, because the directory takes in fastest what comes last in it.
	for _, f := range slices.SortedFunc(slices.Values(files), byName) {
		if d.files.Has(f.Name) {
			return nil, false
		}
		name, own := strings.Clone(f.Name), &file{[]byte(f.Data), len(f.Data)}
		d.files.Put(name, own)
		d.safe.Put(name, own)
	}
	return d, true
}

func byName(a, b api.File) int { return strings.Compare(a.Name, b.Name) }

// Trouble is why nothing is done any more: ErrLost or ErrFull; OK as long as all is well.
func (d *Disk) Trouble() api.Errno { return d.trouble }

// Do does an operation, unless there is trouble. On a name that is not there it does nothing.
func (d *Disk) Do(o Operation) {
	if d.trouble != api.OK {
		return
	}
	number := d.done
	d.done++
	switch {
	case number == d.fate.Crash:
		d.losePower()
	case d.fate.Full != api.Never && number >= d.fate.Full && needsRoom(o.Kind):
		d.stop(api.ErrFull)
	default:
		d.perform(o)
	}
}

func needsRoom(kind Kind) bool { return kind == Create || kind == Append }

func (d *Disk) perform(o Operation) {
	f, found := d.files.Get(o.Name)
	switch {
	case o.Kind == SyncDir:
		d.makeSafe(len(d.steps))
	case o.Kind == Create:
		d.take(step{o, &file{}})
	case !found:
		return
	case o.Kind == Rename || o.Kind == Remove:
		d.take(step{o, f})
	case o.Kind == Append:
		f.bytes = append(f.bytes, o.Bytes...)
	case o.Kind == Cut:
		f.cut(max(0, min(o.Length, len(f.bytes))))
	case o.Kind == Sync:
		f.safe = len(f.bytes)
	}
}

// cut leaves a file its first bytes, no more of them than there are.
func (f *file) cut(length int) {
	f.bytes = f.bytes[:length]
	f.safe = min(f.safe, length)
}

// take does a step of the directory, which is not safe yet.
func (d *Disk) take(s step) {
	s.change(&d.files)
	d.steps = append(d.steps, s)
}

func (s step) change(files *directory) {
	switch s.Kind {
	case Create:
		files.Put(s.Name, s.file)
	case Rename:
		files.Drop(s.Name)
		files.Put(s.To, s.file)
	case Remove:
		files.Drop(s.Name)
	}
}

// makeSafe makes the first of the steps safe that are not; the others are no more.
func (d *Disk) makeSafe(count int) {
	for _, s := range d.steps[:count] {
		s.change(&d.safe)
	}
	d.steps = nil
}

// losePower leaves what is safe, and of the rest what the options say.
func (d *Disk) losePower() {
	d.makeSafe(min(d.fate.Dirs, len(d.steps)))
	d.files = d.safe
	place := 0
	for _, f := range d.files.All() {
		f.cut(f.safe + min(d.more(place), len(f.bytes)-f.safe))
		place++
	}
	d.stop(api.ErrLost)
}

// more is how many bytes that are not safe the file at a place keeps, if it has so many.
func (d *Disk) more(place int) int {
	keeps := d.fate.Keeps
	if len(keeps) == 0 {
		return 0
	}
	return keeps[place%len(keeps)]
}

// stop lets go what only a later operation would need: there will be none.
func (d *Disk) stop(trouble api.Errno) {
	*d = Disk{files: d.files, trouble: trouble}
}

// Names are those of the directory, in rising order.
func (d *Disk) Names() []string {
	var names []string
	for name := range d.files.All() {
		names = append(names, name)
	}
	return names
}

// Read has the bytes of a file; false if there is none of this name.
func (d *Disk) Read(name string) (string, bool) {
	f, found := d.files.Get(name)
	if !found {
		return "", false
	}
	return string(f.bytes), true
}

// Files are copies of all files, by rising names.
func (d *Disk) Files() []api.File {
	var files []api.File
	for name, f := range d.files.All() {
		files = append(files, api.File{Name: strings.Clone(name), Data: string(f.bytes)})
	}
	return files
}
