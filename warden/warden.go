// Package warden: who may do what, on a disk that may lose power: see DOC.md.
package warden

import (
	"warden/api"
	"warden/frame"
	"warden/schemas"
)

// Store is a store of tuples.
type Store struct{}

// Schema looks a schema over (P3).
func Schema(text string) (int, api.Errno) {
	_, number, e := schemas.Parse(text)
	return number, e
}

// Fits tells whether a text is a tuple that fits a schema (P4).
func Fits(schema string, tuple string) api.Errno {
	known, _, e := schemas.Parse(schema)
	if e == api.OK {
		_, e = known.ReadTuple(tuple)
	}
	return e
}

// Frame is a payload as it stands in a file (P5).
func Frame(payload string) (string, api.Errno) {
	framed, ok := frame.Make(payload)
	if !ok {
		return "", api.ErrLong
	}
	return framed, api.OK
}

// Frames reads the frames with which a file begins (P5).
func Frames(data string) ([]string, int) { return frame.ReadAll(data) }

// Open opens a store (P6, P12).
func Open(schema string, files []api.File, o api.Options) (*Store, api.Errno) { return nil, api.OK }

// Write does a transaction (P7).
func (s *Store) Write(x api.Tx) (int, api.Errno) { return 0, api.OK }

// Read tells tuples (P8).
func (s *Store) Read(prefix string) ([]string, api.Errno) { return nil, api.OK }

// Check tells whether a subject is in (P9).
func (s *Store) Check(tuple string) (bool, api.Errno) { return false, api.OK }

// Revision tells how many transactions there were, and how many are safe (P8).
func (s *Store) Revision() (int, int, api.Errno) { return 0, 0, api.OK }

// Flush makes all transactions safe (P10).
func (s *Store) Flush() api.Errno { return api.OK }

// Checkpoint begins a new epoch (P11).
func (s *Store) Checkpoint() api.Errno { return api.OK }

// Files tells what is on the disk (P13).
func (s *Store) Files() []api.File { return nil }
