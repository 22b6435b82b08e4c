// Package members: who is in which relations of which objects.
package members

import (
	"iter"
	"slices"

	"warden/schemas"
	"warden/words"
)

// place is a relation of an object.
type place struct {
	object   words.Object
	relation string
}

// finder finds the places that one subject is in.
type finder struct {
	schema  *schemas.Schema
	subject words.Subject
	objects []words.Object                  // those that tuples are about: of no other one anything can hold
	told    map[place][]words.Subject       // what the tuples say of a place
	askers  map[words.Object][]words.Object // for an object, those that tuples lead from to it: what holds of them may hang on it
	in      map[place]struct{}
}

// Has tells whether the subject of a tuple is in the relation of its object, by the schema and all tuples of a store, in rising order.
func Has(schema *schemas.Schema, tuples iter.Seq[words.Tuple], asked words.Tuple) bool {
	relation, _ := schema.Relation(asked.Object.Type, asked.Relation)
	f := newFinder(schema, tuples, asked.Subject)
	for rank := 1; rank <= relation.Rank; rank++ {
		f.settle(rank)
	}
	return f.isIn(place{asked.Object, asked.Relation})
}

func newFinder(schema *schemas.Schema, tuples iter.Seq[words.Tuple], subject words.Subject) *finder {
	f := &finder{
		schema:  schema,
		subject: subject,
		told:    map[place][]words.Subject{},
		askers:  map[words.Object][]words.Object{},
		in:      map[place]struct{}{},
	}
	for t := range tuples {
		at := place{t.Object, t.Relation}
		f.objects = append(f.objects, t.Object)
		f.told[at] = append(f.told[at], t.Subject)
		f.askers[t.Subject.Object] = append(f.askers[t.Subject.Object], t.Object)
	}
	// In their order, the tuples of one object stand side by side.
	f.objects = slices.Compact(f.objects)
	return f
}

// settle finds all places of one rank. What is found is never taken back: all that stands behind a `-` is of a lower rank, and settled. So an object must be looked at again only if more is found of one that it may hang on.
func (f *finder) settle(rank int) {
	waiting := slices.Clone(f.objects)
	for len(waiting) > 0 {
		object := waiting[0]
		waiting = waiting[1:]
		if f.grow(object, rank) {
			waiting = append(waiting, object)
			waiting = append(waiting, f.askers[object]...)
		}
	}
}

// grow finds places of one object and rank that hold by those found so far; false if there are no more.
func (f *finder) grow(object words.Object, rank int) bool {
	grown := false
	for name, relation := range f.schema.Relations(object.Type) {
		at := place{object, name}
		if relation.Rank == rank && !f.isIn(at) && f.holds(relation.Expression, at) {
			f.in[at] = struct{}{}
			grown = true
		}
	}
	return grown
}

func (f *finder) isIn(at place) bool {
	_, found := f.in[at]
	return found
}

// holds tells whether an expression, of the relation of a place, holds for its object.
func (f *finder) holds(e schemas.Expression, at place) bool {
	switch e.Kind {
	case schemas.Self:
		return slices.ContainsFunc(f.told[at], f.covers)
	case schemas.Other:
		return f.isIn(place{at.object, e.Name})
	case schemas.Via:
		return f.leads(place{at.object, e.Name}, e.Then)
	case schemas.Or:
		return slices.ContainsFunc(e.Terms, func(term schemas.Expression) bool { return f.holds(term, at) })
	case schemas.And:
		return !slices.ContainsFunc(e.Terms, func(term schemas.Expression) bool { return !f.holds(term, at) })
	case schemas.Less:
		return f.holds(e.Terms[0], at) && !f.holds(e.Terms[1], at)
	}
	return false
}

// covers tells whether a tuple's subject is the one that is looked for, or a set that has it.
func (f *finder) covers(s words.Subject) bool {
	return s == f.subject || s.IsSet() && f.isIn(place{s.Object, s.Relation})
}

// leads tells whether the tuples of a place lead to an object that has the subject in a relation. Objects whose type has no such relation have nobody in it.
func (f *finder) leads(via place, then string) bool {
	return slices.ContainsFunc(f.told[via], func(s words.Subject) bool {
		return !s.IsSet() && f.isIn(place{s.Object, then})
	})
}
