package warden

import (
	"slices"

	"warden/api"
	"warden/disk"
	"warden/epochs"
	"warden/schemas"
)

// Store is a store of tuples.
type Store struct {
	disk   *disk.Disk
	keeper *epochs.Keeper
	broken api.Errno // what every call but Files answers, unless it is OK; there is no keeper then
}

// Open opens a store (P6, P12, P14).
func Open(schema string, files []api.File, o api.Options) (*Store, api.Errno) {
	known, _, e := schemas.Parse(schema)
	if e != api.OK {
		return nil, e
	}
	d, ok := disk.New(files, o)
	if !ok {
		return nil, api.ErrDisk
	}
	if !mayBe(o) {
		return nil, api.ErrOption
	}
	keeper, e := epochs.Open(known, d)
	return &Store{disk: d, keeper: keeper, broken: e}, e
}

// mayBe tells whether all options are ones that may be.
func mayBe(o api.Options) bool {
	return o.Crash >= api.Never && o.Full >= api.Never && o.Dirs >= 0 &&
		!slices.ContainsFunc(o.Keeps, func(bytes int) bool { return bytes < 0 })
}

// barred is what a call that would change the store answers ahead of all else; OK if it may (P14).
func (s *Store) barred() api.Errno {
	if s.broken == api.OK && s.disk.Trouble() == api.ErrFull {
		return api.ErrReadOnly
	}
	return s.broken
}

// behind is what a call answers that had this error on the disk. Where power was lost, nothing but the files is ever told again.
func (s *Store) behind(e api.Errno) api.Errno {
	if e == api.ErrLost {
		s.keeper, s.broken = nil, e
	}
	return e
}

// Write does a transaction (P7).
func (s *Store) Write(x api.Tx) (int, api.Errno) {
	if e := s.barred(); e != api.OK {
		return 0, e
	}
	return s.keeper.Write(x)
}

// Read tells tuples (P8).
func (s *Store) Read(prefix string) ([]string, api.Errno) {
	if s.broken != api.OK {
		return nil, s.broken
	}
	return s.keeper.State().Read(prefix), api.OK
}

// Check tells whether a subject is in (P9).
func (s *Store) Check(tuple string) (bool, api.Errno) {
	if s.broken != api.OK {
		return false, s.broken
	}
	return s.keeper.State().Check(tuple)
}

// Revision tells how many transactions there were, and how many are safe (P8).
func (s *Store) Revision() (int, int, api.Errno) {
	if s.broken != api.OK {
		return 0, 0, s.broken
	}
	return s.keeper.State().Revision(), s.keeper.Safe(), api.OK
}

// Flush makes all transactions safe (P10).
func (s *Store) Flush() api.Errno {
	if e := s.barred(); e != api.OK {
		return e
	}
	return s.behind(s.keeper.Flush())
}

// Checkpoint begins a new epoch (P11).
func (s *Store) Checkpoint() api.Errno {
	if e := s.barred(); e != api.OK {
		return e
	}
	return s.behind(s.keeper.Checkpoint())
}

// Files tells what is on the disk (P13).
func (s *Store) Files() []api.File { return s.disk.Files() }
