package warden

import (
	"fmt"
	"maps"
	"math"
	"slices"
	"testing"

	"warden/api"
)

// What stands here is a store on a disk in another way than the program has it: the disk is the list of all that was done on it, and what is left of it is found by looking back.

// deed is an operation that was done.
type deed struct {
	what, name string
	text       string // the bytes of an APPEND, the new name of a RENAME
	length     int    // what a CUT leaves
}

func (d deed) isStep() bool { return d.what == "CREATE" || d.what == "RENAME" || d.what == "REMOVE" }

// on does a step on names and the files that have them.
func (d deed) on(names map[string]int, file int) {
	delete(names, d.name)
	switch d.what {
	case "CREATE":
		names[d.name] = file
	case "RENAME":
		names[d.text] = file
	}
}

// past is a disk: the files that lay there first, and what was done since then.
type past struct {
	first []api.File
	deeds []deed
}

// left is what is left if power is lost behind it all.
func (p *past) left(o api.Options) []api.File {
	lastSafe := -1
	for i, d := range p.deeds {
		if d.what == "SYNCDIR" {
			lastSafe = i
		}
	}
	now, kept, steps := map[string]int{}, map[string]int{}, o.Dirs
	var bytes []string
	var safe []int
	for i, f := range p.first {
		now[f.Name], kept[f.Name] = i, i
		bytes, safe = append(bytes, f.Data), append(safe, len(f.Data))
	}
	for i, d := range p.deeds {
		file := now[d.name]
		switch d.what {
		case "CREATE":
			file = len(bytes)
			bytes, safe = append(bytes, ""), append(safe, 0)
		case "APPEND":
			bytes[file] += d.text
		case "CUT":
			bytes[file], safe[file] = bytes[file][:d.length], min(safe[file], d.length)
		case "SYNC":
			safe[file] = len(bytes[file])
		}
		if !d.isStep() {
			continue
		}
		d.on(now, file)
		if i < lastSafe {
			d.on(kept, file)
		} else if steps > 0 {
			d.on(kept, file)
			steps--
		}
	}
	var files []api.File
	for i, name := range slices.Sorted(maps.Keys(kept)) {
		data, length := bytes[kept[name]], safe[kept[name]]
		if len(o.Keeps) > 0 {
			length += min(o.Keeps[i%len(o.Keeps)], len(data)-length)
		}
		files = append(files, api.File{Name: name, Data: data[:length]})
	}
	return files
}

// likeStore is a store by the words of P6 to P14.
type likeStore struct {
	past
	o              api.Options
	number         int // of the next operation
	epoch          string
	revision, safe int
	tuples         map[string]int
	waiting        string
	mute           api.Errno // what all calls but Files answer
	full           bool
	rest           []api.File // what was left when power was lost
}

// try does deeds until power is lost, or there is no room.
func (s *likeStore) try(deeds ...deed) api.Errno {
	for _, d := range deeds {
		number := s.number
		s.number++
		if number == s.o.Crash {
			s.rest, s.mute = s.left(s.o), api.ErrLost
			return api.ErrLost
		}
		if s.o.Full >= 0 && number >= s.o.Full && (d.what == "CREATE" || d.what == "APPEND") {
			s.full = true
			return api.ErrFull
		}
		s.deeds = append(s.deeds, d)
	}
	return api.OK
}

func removals(names []string) []deed {
	var deeds []deed
	for _, name := range names {
		deeds = append(deeds, deed{what: "REMOVE", name: name})
	}
	if len(deeds) > 0 {
		deeds = append(deeds, deed{what: "SYNCDIR"})
	}
	return deeds
}

// beginning: P11 from its first CREATE to its second SYNCDIR.
func (s *likeStore) beginning(epoch string) []deed {
	base, log := "c"+epoch, "l"+epoch
	deeds := []deed{{what: "CREATE", name: base}}
	for _, payload := range slices.Concat([]string{fmt.Sprint(s.revision)}, slices.Sorted(maps.Keys(s.tuples)), []string{"end"}) {
		deeds = append(deeds, deed{what: "APPEND", name: base, text: framesOf(payload)})
	}
	return append(deeds,
		deed{what: "SYNC", name: base}, deed{what: "CREATE", name: log}, deed{what: "SYNC", name: log}, deed{what: "SYNCDIR"},
		deed{what: "CREATE", name: "MANIFEST~"}, deed{what: "APPEND", name: "MANIFEST~", text: framesOf(epoch)}, deed{what: "SYNC", name: "MANIFEST~"},
		deed{what: "RENAME", name: "MANIFEST~", text: "MANIFEST"}, deed{what: "SYNCDIR"})
}

func openLike(files []api.File, o api.Options) (*likeStore, api.Errno) {
	s := &likeStore{past: past{first: files}, o: o, tuples: map[string]int{}}
	known := storeByWords(files)
	if known == nil {
		s.mute = api.ErrCorrupt
		return s, s.mute
	}
	on := map[string]string{}
	for _, f := range files {
		on[f.Name] = f.Data
	}
	manifest, found := on["MANIFEST"]
	if !found {
		s.epoch = "0"
		s.mute = s.try(append(removals(slices.Sorted(maps.Keys(on))), s.beginning("0")...)...)
		return s, s.mute
	}
	payloads, _ := framesByWords(manifest)
	s.epoch, s.revision, s.safe = payloads[0], known.revision, known.revision
	maps.Copy(s.tuples, known.tuples)
	var deeds []deed
	log := "l" + s.epoch
	if length := len(known.files[log]); length < len(on[log]) {
		deeds = []deed{{what: "CUT", name: log, length: length}, {what: "SYNC", name: log}}
	}
	maps.DeleteFunc(on, func(name, _ string) bool { return name == "MANIFEST" || name == "c"+s.epoch || name == log })
	s.mute = s.try(append(deeds, removals(slices.Sorted(maps.Keys(on)))...)...)
	return s, s.mute
}

// refused is what a call that changes something answers ahead of all else.
func (s *likeStore) refused() api.Errno {
	if s.mute == api.OK && s.full {
		return api.ErrReadOnly
	}
	return s.mute
}

func (s *likeStore) write(x api.Tx) (int, api.Errno) {
	if e := s.refused(); e != api.OK {
		return 0, e
	}
	if e := likeMap(s.tuples, x); e != api.OK {
		return 0, e
	}
	s.revision++
	payload := fmt.Sprint(s.revision)
	for _, tuple := range x.Put {
		payload += "\n+" + tuple
	}
	for _, tuple := range x.Drop {
		payload += "\n-" + tuple
	}
	s.waiting += framesOf(payload)
	return s.revision, api.OK
}

func (s *likeStore) flush() api.Errno {
	if e := s.refused(); e != api.OK || s.waiting == "" {
		return e
	}
	e := s.try(deed{what: "APPEND", name: "l" + s.epoch, text: s.waiting}, deed{what: "SYNC", name: "l" + s.epoch})
	if e == api.OK {
		s.waiting, s.safe = "", s.revision
	}
	return e
}

func (s *likeStore) checkpoint() api.Errno {
	if e := s.flush(); e != api.OK {
		return e
	}
	old := s.epoch
	s.epoch = "0"
	if old != "999999999" {
		number := 0
		fmt.Sscan(old, &number)
		s.epoch = fmt.Sprint(number + 1)
	}
	return s.try(append(s.beginning(s.epoch), removals([]string{"c" + old, "l" + old})...)...)
}

func (s *likeStore) files() []api.File {
	if s.mute == api.ErrLost {
		return s.rest
	}
	// Where all is kept that is not safe, all is left.
	return s.left(api.Options{Dirs: math.MaxInt, Keeps: []int{math.MaxInt}})
}

// tells is what a store should answer to the calls that change nothing.
func (s *likeStore) tells() string {
	if s.mute != api.OK {
		return fmt.Sprintf("0 0 %d [] %[1]d false %[1]d %[2]q", s.mute, s.files())
	}
	return fmt.Sprintf("%d %d 0 %q 0 %v 0 %q", s.revision, s.safe, slices.Sorted(maps.Keys(s.tuples)), s.tuples[ann] == 1, s.files())
}

func tellsOf(s *Store) string {
	revision, safe, r := s.Revision()
	tuples, l := s.Read("")
	in, c := s.Check(ann)
	return fmt.Sprintf("%d %d %d %q %d %v %d %q", revision, safe, r, tuples, l, in, c, s.Files())
}

// call is one of Write, Flush and Checkpoint.
type call struct {
	what string
	x    api.Tx // of Write
}

func (c call) of(s *Store) (int, api.Errno) {
	switch c.what {
	case "Flush":
		return 0, s.Flush()
	case "Checkpoint":
		return 0, s.Checkpoint()
	}
	return s.Write(c.x)
}

func (c call) like(s *likeStore) (int, api.Errno) {
	switch c.what {
	case "Flush":
		return 0, s.flush()
	case "Checkpoint":
		return 0, s.checkpoint()
	}
	return s.write(c.x)
}

// checkCalls opens a store of files and holds all that it answers against the words; it is the store that should have come of it.
func checkCalls(t *testing.T, files []api.File, o api.Options, calls ...call) *likeStore {
	t.Helper()
	s, e := Open(schemaA, files, o)
	like, want := openLike(files, o)
	if s == nil || e != want {
		t.Fatalf("P14: Open(.., %.500q, %+v) = %v, %d, want %d", files, o, s, e, want)
	}
	if got := tellsOf(s); got != like.tells() {
		t.Fatalf("P14: opened of %.500q with %+v, the store tells\n%s\nwant\n%s", files, o, got, like.tells())
	}
	for i, c := range calls {
		number, e := c.of(s)
		if n, want := c.like(like); number != n || e != want {
			t.Fatalf("P14: of %.500q with %+v: call %d, %v = %d, %d, want %d, %d", files, o, i, c, number, e, n, want)
		}
		if got := tellsOf(s); got != like.tells() {
			t.Fatalf("P14: of %.500q with %+v: behind call %d, %v, the store tells\n%s\nwant\n%s", files, o, i, c, got, like.tells())
		}
	}
	return like
}
