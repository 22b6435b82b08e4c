package warden

import (
	"slices"

	"warden/api"
	"warden/disk"
	"warden/epochs"
	"warden/schemas"
)

// Store is a store of tuples.
type Store struct {
	disk   *disk.Disk
	keeper *epochs.Keeper
	broken api.Errno // what every call but Files answers, unless it is OK; there is no keeper then
}

// Open opens a store (P6, P12).
func Open(schema string, files []api.File, o api.Options) (*Store, api.Errno) {
	known, _, e := schemas.Parse(schema)
	if e != api.OK {
		return nil, e
	}
	d, ok := disk.New(files)
	if !ok {
		return nil, api.ErrDisk
	}
	if !mayBe(o) {
		return nil, api.ErrOption
	}
	keeper, ok := epochs.Open(known, d)
	if !ok {
		return &Store{disk: d, broken: api.ErrCorrupt}, api.ErrCorrupt
	}
	return &Store{disk: d, keeper: keeper}, api.OK
}

// mayBe tells whether all options are ones that may be.
func mayBe(o api.Options) bool {
	return o.Crash >= api.Never && o.Full >= api.Never && o.Dirs >= 0 &&
		!slices.ContainsFunc(o.Keeps, func(bytes int) bool { return bytes < 0 })
}

// Write does a transaction (P7).
func (s *Store) Write(x api.Tx) (int, api.Errno) {
	if s.broken != api.OK {
		return 0, s.broken
	}
	return s.keeper.Write(x)
}

// Read tells tuples (P8).
func (s *Store) Read(prefix string) ([]string, api.Errno) {
	if s.broken != api.OK {
		return nil, s.broken
	}
	return s.keeper.State().Read(prefix), api.OK
}

// Check tells whether a subject is in (P9).
func (s *Store) Check(tuple string) (bool, api.Errno) {
	if s.broken != api.OK {
		return false, s.broken
	}
	return s.keeper.State().Check(tuple)
}

// Revision tells how many transactions there were, and how many are safe (P8).
func (s *Store) Revision() (int, int, api.Errno) {
	if s.broken != api.OK {
		return 0, 0, s.broken
	}
	return s.keeper.State().Revision(), s.keeper.Safe(), api.OK
}

// Flush makes all transactions safe (P10).
func (s *Store) Flush() api.Errno {
	if s.broken != api.OK {
		return s.broken
	}
	s.keeper.Flush()
	return api.OK
}

// Checkpoint begins a new epoch (P11).
func (s *Store) Checkpoint() api.Errno {
	if s.broken != api.OK {
		return s.broken
	}
	s.keeper.Checkpoint()
	return api.OK
}

// Files tells what is on the disk (P13).
func (s *Store) Files() []api.File { return s.disk.Files() }
