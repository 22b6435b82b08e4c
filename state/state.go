// Package state: the tuples of a store and its revision, and how transactions change them.
package state

import (
	"iter"
	"slices"
	"strings"

	"warden/api"
	"warden/members"
	"warden/ordered"
	"warden/schemas"
	"warden/words"
)

// State is what a store knows, whatever of it is on the disk.
type State struct {
	schema   *schemas.Schema
	tuples   ordered.List[string, words.Tuple] // by their texts
	revision int
}

// New is a state without tuples, of revision 0.
func New(schema *schemas.Schema) *State {
	return &State{schema: schema}
}

// Restore is a state with these tuples and this revision; false if no state can have these tuples, or they do not rise.
func Restore(schema *schemas.Schema, revision int, texts []string) (*State, bool) {
	s := &State{schema: schema, revision: revision}
	if len(texts) > api.MaxTuples || !ordered.Rise(texts) || s.firstWrong(texts) != api.OK {
		return nil, false
	}
	for _, text := range texts {
		s.put(text)
	}
	return s, true
}

// Revision is the number of the last transaction.
func (s *State) Revision() int { return s.revision }

// Write does a transaction whole, or not at all, and tells the revision that it has made.
func (s *State) Write(x api.Tx) (int, api.Errno) {
	if e := s.refusal(x); e != api.OK {
		return 0, e
	}
	for _, text := range x.Put {
		s.put(text)
	}
	for _, text := range x.Drop {
		s.tuples.Drop(text)
	}
	s.revision++
	return s.revision, api.OK
}

// Read has the tuples that begin with a prefix, in rising order, where they stand side by side.
func (s *State) Read(prefix string) []string {
	var texts []string
	for text := range s.tuples.From(prefix) {
		if !strings.HasPrefix(text, prefix) {
			break
		}
		texts = append(texts, strings.Clone(text))
	}
	return texts
}

// Check tells whether the subject of a tuple is in the relation of its object.
func (s *State) Check(text string) (bool, api.Errno) {
	asked, e := s.schema.ReadTuple(text)
	if e != api.OK {
		return false, e
	}
	return members.Has(s.schema, s.all(), asked), api.OK
}

func (s *State) all() iter.Seq[words.Tuple] {
	return func(yield func(words.Tuple) bool) {
		for _, tuple := range s.tuples.All() {
			if !yield(tuple) {
				return
			}
		}
	}
}

// put takes in a tuple that fits, as a copy, because it is kept.
func (s *State) put(text string) {
	if s.tuples.Has(text) {
		return
	}
	text = strings.Clone(text)
	if tuple, ok := words.ParseTuple(text); ok {
		s.tuples.Put(text, tuple)
	}
}

// refusal is why a transaction can't be done; OK if it can.
func (s *State) refusal(x api.Tx) api.Errno {
	if len(x.Must)+len(x.Not)+len(x.Put)+len(x.Drop) > api.MaxChanges {
		return api.ErrLong
	}
	if e := s.firstWrong(slices.Concat(x.Must, x.Not, x.Put, x.Drop)); e != api.OK {
		return e
	}
	if ordered.AnyTwice(slices.Concat(x.Put, x.Drop)) {
		return api.ErrTwice
	}
	if s.count(x.Must) < len(x.Must) || s.count(x.Not) > 0 {
		return api.ErrCondition
	}
	behind := s.tuples.Len() + len(x.Put) - s.count(x.Put) - s.count(x.Drop)
	if behind > api.MaxTuples || s.revision >= api.MaxNumber {
		return api.ErrLong
	}
	return api.OK
}

// firstWrong is the error of the first text that is no tuple, or does not fit.
func (s *State) firstWrong(texts []string) api.Errno {
	for _, text := range texts {
		if _, e := s.schema.ReadTuple(text); e != api.OK {
			return e
		}
	}
	return api.OK
}

// count is how many of the texts are in the store.
func (s *State) count(texts []string) int {
	count := 0
	for _, text := range texts {
		if s.tuples.Has(text) {
			count++
		}
	}
	return count
}
