// Package schemas: the types and relations that a store knows, and what follows from them.
package schemas

import (
	"iter"
	"strings"

	"warden/api"
	"warden/ordered"
	"warden/words"
)

// Relation is how a line of a schema says it.
type Relation struct {
	IsSet      bool // said by `set`
	Expression Expression
	Rank       int // from 1 on: as high as those it hangs on or higher, and higher than those against its will
	line       int
}

// relations are those of one type, by their names.
type relations = ordered.List[string, Relation]

// Schema has the relations of each type, by the types' names.
type Schema struct {
	types ordered.List[string, *relations]
}

// Parse reads a schema. With an error it is nil, and the number is what P3 tells with that error; else the number is that of the types.
func Parse(text string) (*Schema, int, api.Errno) {
	if len(text) > api.MaxSchema {
		return nil, 0, api.ErrLong
	}
	// A copy, because the names are kept.
	lines := strings.Split(strings.Clone(text), "\n")
	r := reader{schema: &Schema{}}
	for number, line := range lines {
		if e := r.line(number, line); e != api.OK {
			return nil, number, e
		}
	}
	if number := r.schema.firstUnknown(len(lines)); number < len(lines) {
		return nil, number, api.ErrName
	}
	if !r.schema.rank() {
		return nil, len(lines), api.ErrRing
	}
	return r.schema, r.schema.types.Len(), api.OK
}

// Relation is the relation of a type; false if there is no such type, or it has no such relation.
func (s *Schema) Relation(typeName, name string) (Relation, bool) {
	of, found := s.types.Get(typeName)
	if !found {
		return Relation{}, false
	}
	return of.Get(name)
}

// Relations goes over the relations of a type, by rising names: over none if there is no such type.
func (s *Schema) Relations(typeName string) iter.Seq2[string, Relation] {
	of, found := s.types.Get(typeName)
	if !found {
		of = &relations{}
	}
	return of.All()
}

// ReadTuple reads a tuple that fits the schema; the error says whether the text is none, or does not fit.
func (s *Schema) ReadTuple(text string) (words.Tuple, api.Errno) {
	tuple, ok := words.ParseTuple(text)
	if !ok {
		return words.Tuple{}, api.ErrText
	}
	if !s.fits(tuple) {
		return words.Tuple{}, api.ErrFit
	}
	return tuple, api.OK
}

func (s *Schema) fits(t words.Tuple) bool {
	if _, found := s.Relation(t.Object.Type, t.Relation); !found {
		return false
	}
	if !t.Subject.IsSet() {
		return s.types.Has(t.Subject.Type)
	}
	of, found := s.Relation(t.Subject.Type, t.Subject.Relation)
	return found && of.IsSet
}

// reader fills a schema line by line.
type reader struct {
	schema *Schema
	last   *relations // of the type whose relations are being read; nil ahead of the first one
}

func (r *reader) line(number int, text string) api.Errno {
	if text == "" || strings.HasPrefix(text, "//") {
		return api.OK
	}
	parts := strings.Split(text, " ")
	switch parts[0] {
	case "type":
		return r.typeLine(parts[1:])
	case "rel":
		return r.relationLine(parts[1:], Relation{line: number})
	case "set":
		return r.relationLine(parts[1:], Relation{line: number, IsSet: true})
	}
	return api.ErrLine
}

func (r *reader) typeLine(parts []string) api.Errno {
	if len(parts) != 1 || !words.IsName(parts[0]) {
		return api.ErrLine
	}
	if r.schema.types.Has(parts[0]) {
		return api.ErrName
	}
	if r.schema.types.Len() == api.MaxTypes {
		return api.ErrLong
	}
	r.last = &relations{}
	r.schema.types.Put(parts[0], r.last)
	return api.OK
}

func (r *reader) relationLine(parts []string, said Relation) api.Errno {
	if r.last == nil || len(parts) == 0 || !words.IsName(parts[0]) {
		return api.ErrLine
	}
	expression, ok := parseExpression(parts[1:])
	if !ok {
		return api.ErrLine
	}
	if r.last.Has(parts[0]) {
		return api.ErrName
	}
	if r.last.Len() == api.MaxRels {
		return api.ErrLong
	}
	said.Expression = expression
	r.last.Put(parts[0], said)
	return api.OK
}

// firstUnknown is the first line of a relation that names one that there is not; none (which no line has), if there is no such line. It can be told only behind the last line: relations may name later ones.
func (s *Schema) firstUnknown(none int) int {
	first := none
	for _, of := range s.types.All() {
		for _, relation := range of.All() {
			relation.Expression.eachTerm(func(term Expression, _ bool) {
				if !s.knows(of, term) {
					first = min(first, relation.line)
				}
			})
		}
	}
	return first
}

// knows tells whether what a term names is there, for a relation that is one of these.
func (s *Schema) knows(of *relations, term Expression) bool {
	switch term.Kind {
	case Other:
		return of.Has(term.Name)
	case Via:
		return of.Has(term.Name) && s.someHas(term.Then)
	}
	return true
}

// someHas tells whether any type has a relation of this name.
func (s *Schema) someHas(name string) bool {
	for _, of := range s.types.All() {
		if of.Has(name) {
			return true
		}
	}
	return false
}
