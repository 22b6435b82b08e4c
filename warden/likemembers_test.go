package warden

import (
	"maps"
	"math/rand"
	"slices"
	"strings"

	"warden/api"
)

// What stands here tells who is in without any order among the relations: it takes by turns too few and too many places for those that are taken away, until both are the same.

// places has 1 for each object#relation that the subject is in.
type places map[string]int

type asking struct {
	rels    []told
	tuples  []string
	subject string
}

func placesByWords(schema string, tuples []string, subject string) places {
	var types []string
	a := asking{tuples: tuples, subject: subject}
	for i, line := range strings.Split(schema, "\n") {
		readLine(i, line, &types, &a.rels)
	}
	few := places{}
	for {
		many := a.grown(few)
		next := a.grown(many)
		if maps.Equal(next, few) {
			if !maps.Equal(many, few) {
				panic("the places of a schema that is right can't be told")
			}
			return few
		}
		few = next
	}
}

// grown has the least places that hold if these others are the ones that are taken away.
func (a asking) grown(others places) places {
	in := places{}
	for {
		before := len(in)
		for _, tuple := range a.tuples {
			object, _, _ := strings.Cut(tuple, "#")
			for _, r := range a.rels {
				if strings.HasPrefix(object, r.of+":") {
					if holds, _ := a.expression(r.words, object, r.name, in, others); holds {
						in[object+"#"+r.name] = 1
					}
				}
			}
		}
		if len(in) == before {
			return in
		}
	}
}

// expression goes over the words as they stand, and tells of the rest of them.
func (a asking) expression(w []string, object, relation string, in, others places) (bool, []string) {
	holds, w := a.term(w, object, relation, in, others)
	for len(w) > 0 && w[0] != ")" {
		mark, next := w[0], false
		switch mark {
		case "|":
			next, w = a.term(w[1:], object, relation, in, others)
			holds = holds || next
		case "&":
			next, w = a.term(w[1:], object, relation, in, others)
			holds = holds && next
		case "-":
			next, w = a.term(w[1:], object, relation, others, in)
			holds = holds && !next
		}
	}
	return holds, w
}

func (a asking) term(w []string, object, relation string, in, others places) (bool, []string) {
	if w[0] == "(" {
		holds, rest := a.expression(w[1:], object, relation, in, others)
		return holds, rest[1:]
	}
	via, then, dotted := strings.Cut(w[0], ".")
	if !dotted && w[0] != "self" {
		return in[object+"#"+w[0]] == 1, w[1:]
	}
	holds := false
	for _, tuple := range a.tuples {
		place, subject, _ := strings.Cut(tuple, "@")
		switch {
		case dotted && place == object+"#"+via:
			holds = holds || !strings.Contains(subject, "#") && in[subject+"#"+then] == 1
		case !dotted && place == object+"#"+relation:
			holds = holds || subject == a.subject || strings.Contains(subject, "#") && in[subject] == 1
		}
	}
	return holds, w[1:]
}

// randomTuples: at most n tuples that fit a schema, all different.
func randomTuples(random *rand.Rand, schema string, n int) []string {
	var types, names, l []string
	for _, line := range strings.Split(schema, "\n") {
		w := strings.Split(line, " ")
		switch w[0] {
		case "type":
			types = append(types, w[1])
		case "rel", "set":
			names = append(names, w[1])
		}
	}
	if len(names) == 0 {
		return nil
	}
	object := func() string { return randomWord(random, types...) + ":" + randomWord(random, "1", "2", "3") }
	for range 6 * n {
		tuple := object() + "#" + randomWord(random, names...) + "@" + object()
		if random.Intn(2) == 0 {
			tuple += "#" + randomWord(random, names...)
		}
		if len(l) < n && Fits(schema, tuple) == api.OK && !slices.Contains(l, tuple) {
			l = append(l, tuple)
		}
	}
	return l
}
