package schemas

import (
	"strings"

	"warden/words"
)

// Kind is the kind of an expression.
type Kind int

// The kinds: three of single terms, three of what joins them.
const (
	Self  Kind = iota // what the tuples say
	Other             // another relation of the same object
	Via               // a relation of the objects that a relation of this one leads to
	Or
	And
	Less
)

// Expression is a tree: a kind that joins has its parts in Terms, a single term has none.
type Expression struct {
	Kind  Kind
	Name  string // the relation, of Other; VIA, of Via
	Then  string // THEN, of Via
	Terms []Expression
}

// eachTerm visits the single terms, and tells of each whether it stands in what is behind a `-`. One such `-` is enough, however many there are around it: a second one does not lift it.
func (e Expression) eachTerm(visit func(term Expression, against bool)) {
	e.walk(false, visit)
}

func (e Expression) walk(against bool, visit func(Expression, bool)) {
	if len(e.Terms) == 0 {
		visit(e, against)
		return
	}
	for i, term := range e.Terms {
		term.walk(against || e.Kind == Less && i > 0, visit)
	}
}

// parseExpression reads words that are one whole expression; false if they are none.
func parseExpression(text []string) (Expression, bool) {
	p := parser{rest: text}
	e, ok := p.expression()
	return e, ok && len(p.rest) == 0
}

// parser has the words that are still to be read.
type parser struct {
	rest []string
}

// take reads a word if it is the next one.
func (p *parser) take(word string) bool {
	if len(p.rest) == 0 || p.rest[0] != word {
		return false
	}
	p.rest = p.rest[1:]
	return true
}

// expression reads terms with one and the same mark between them; at another mark it stops, for whoever called it to refuse.
func (p *parser) expression() (Expression, bool) {
	first, ok := p.term()
	if !ok || len(p.rest) == 0 {
		return first, ok
	}
	mark := p.rest[0]
	kind, joins := joining(mark)
	if !joins {
		return first, true
	}
	terms := []Expression{first}
	for p.take(mark) {
		next, ok := p.term()
		if !ok {
			return Expression{}, false
		}
		terms = append(terms, next)
	}
	return Expression{Kind: kind, Terms: terms}, kind != Less || len(terms) == 2
}

// joining is the kind that a mark makes of the terms around it; false if the word is no such mark.
func joining(mark string) (Kind, bool) {
	switch mark {
	case "|":
		return Or, true
	case "&":
		return And, true
	case "-":
		return Less, true
	}
	return Self, false
}

func (p *parser) term() (Expression, bool) {
	if p.take("(") {
		inner, ok := p.expression()
		return inner, ok && p.take(")")
	}
	if len(p.rest) == 0 {
		return Expression{}, false
	}
	word := p.rest[0]
	p.rest = p.rest[1:]
	return singleTerm(word)
}

func singleTerm(word string) (Expression, bool) {
	if word == words.Self {
		return Expression{Kind: Self}, true
	}
	via, then, dotted := strings.Cut(word, ".")
	if !words.IsName(via) || dotted && !words.IsName(then) {
		return Expression{}, false
	}
	if dotted {
		return Expression{Kind: Via, Name: via, Then: then}, true
	}
	return Expression{Kind: Other, Name: word}, true
}
