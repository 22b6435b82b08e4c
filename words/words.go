// Package words: the texts that schemas and tuples are made of.
package words

import (
	"strings"

	"warden/api"
)

// Self stands in expressions for what the tuples say, so it can be no name.
const Self = "self"

// maxID is the document's bound on an id, which package api has no name for.
const maxID = 8

// IsName tells whether a text is a name.
func IsName(text string) bool {
	return text != Self && fits(text, api.MaxName, isLetter)
}

func isID(text string) bool {
	return fits(text, maxID, isLetterOrDigit)
}

// fits looks at the length first, so that a text of any length is refused at once.
func fits(text string, most int, allowed func(byte) bool) bool {
	if len(text) < 1 || len(text) > most {
		return false
	}
	for i := range len(text) {
		if !allowed(text[i]) {
			return false
		}
	}
	return true
}

func isLetter(b byte) bool { return 'a' <= b && b <= 'z' }

func isLetterOrDigit(b byte) bool { return isLetter(b) || '0' <= b && b <= '9' }

// Object is a type and an id.
type Object struct {
	Type, ID string
}

// Subject is an object, or the set of those in one of its relations.
type Subject struct {
	Object
	Relation string // empty if the subject is no set: no name is empty
}

// IsSet tells whether a subject is a set.
func (s Subject) IsSet() bool { return s.Relation != "" }

// Tuple says that a subject has a relation to an object.
type Tuple struct {
	Object   Object
	Relation string
	Subject  Subject
}

// ParseTuple reads a tuple; false if the text is none. Cutting at the first mark is enough: a mark that is left over stands in a name or an id then, which is none with it.
func ParseTuple(text string) (Tuple, bool) {
	left, right, marked := strings.Cut(text, "@")
	if !marked {
		return Tuple{}, false
	}
	object, relation, marked := strings.Cut(left, "#")
	if !marked || !IsName(relation) {
		return Tuple{}, false
	}
	of, isObject := parseObject(object)
	subject, isSubject := parseSubject(right)
	if !isObject || !isSubject {
		return Tuple{}, false
	}
	return Tuple{of, relation, subject}, true
}

func parseSubject(text string) (Subject, bool) {
	object, relation, marked := strings.Cut(text, "#")
	if marked && !IsName(relation) {
		return Subject{}, false
	}
	of, isObject := parseObject(object)
	if !isObject {
		return Subject{}, false
	}
	return Subject{of, relation}, true
}

func parseObject(text string) (Object, bool) {
	name, id, marked := strings.Cut(text, ":")
	if !marked || !IsName(name) || !isID(id) {
		return Object{}, false
	}
	return Object{name, id}, true
}
