package warden

import (
	"slices"

	"warden/api"
	"warden/ordered"
	"warden/schemas"
	"warden/state"
)

// Store is a store of tuples.
type Store struct {
	now  *state.State
	safe int // the revision up to which all is safe
}

// Open opens a store (P6, P12).
func Open(schema string, files []api.File, o api.Options) (*Store, api.Errno) {
	known, _, e := schemas.Parse(schema)
	if e != api.OK {
		return nil, e
	}
	if ordered.AnyTwice(namesOf(files)) {
		return nil, api.ErrDisk
	}
	if !mayBe(o) {
		return nil, api.ErrOption
	}
	return &Store{now: state.New(known)}, api.OK
}

func namesOf(files []api.File) []string {
	var names []string
	for _, file := range files {
		names = append(names, file.Name)
	}
	return names
}

// mayBe tells whether all options are ones that may be.
func mayBe(o api.Options) bool {
	return o.Crash >= api.Never && o.Full >= api.Never && o.Dirs >= 0 &&
		!slices.ContainsFunc(o.Keeps, func(bytes int) bool { return bytes < 0 })
}

// Write does a transaction (P7).
func (s *Store) Write(x api.Tx) (int, api.Errno) { return s.now.Write(x) }

// Read tells tuples (P8).
func (s *Store) Read(prefix string) ([]string, api.Errno) { return s.now.Read(prefix), api.OK }

// Check tells whether a subject is in (P9).
func (s *Store) Check(tuple string) (bool, api.Errno) { return s.now.Check(tuple) }

// Revision tells how many transactions there were, and how many are safe (P8).
func (s *Store) Revision() (int, int, api.Errno) { return s.now.Revision(), s.safe, api.OK }

// Flush makes all transactions safe (P10).
func (s *Store) Flush() api.Errno { return api.OK }

// Checkpoint begins a new epoch (P11).
func (s *Store) Checkpoint() api.Errno { return api.OK }

// Files tells what is on the disk (P13).
func (s *Store) Files() []api.File { return nil }
