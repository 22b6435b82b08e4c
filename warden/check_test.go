package warden

import (
	"fmt"
	"maps"
	"math/rand"
	"slices"
	"strings"
	"testing"

	"warden/api"
)

// storeOf is a store with these tuples.
func storeOf(t *testing.T, schema string, tuples ...string) *Store {
	t.Helper()
	s := newStore(t, schema)
	putIn(t, s, tuples...)
	return s
}

func TestCheckSelf(t *testing.T) {
	s := storeOf(t, schemaA, "page:1#owner@user:ann", "page:1#owner@team:red#member", "page:1#owner@page:2", "team:red#member@user:bob", "team:red#member@team:blue#member", "team:blue#member@user:cat", "page:3#owner@team:red")
	checkIn(t, s, true, "page:1#owner@user:ann", "page:1#owner@user:bob", "page:1#owner@user:cat", "page:1#owner@page:2", "page:1#owner@team:red#member", "page:1#owner@team:blue#member", "team:red#member@team:blue#member", "page:3#owner@team:red")
	checkIn(t, s, false,
		"page:1#owner@user:dan", "page:2#owner@user:ann", "page:1#banned@user:ann", "page:11#owner@user:ann", "page:1#owner@user:an", "page:1#owner@user:annn", "page:1#owner@team:ann",
		// A set is not the object whose set it is, and is not in itself.
		"page:1#owner@team:red", "page:3#owner@team:red#member", "page:3#owner@user:bob", "team:red#member@team:red#member", "team:blue#member@team:red#member", "team:blue#member@user:bob")
}

func TestCheckTuplesOfOtherExpressions(t *testing.T) {
	// Without self the tuples of a relation make nobody be in it; VIA goes by them all the same.
	s := storeOf(t, "type t\nrel a b\nrel b self\nrel c a.b\nrel d a.a", "t:1#a@t:2", "t:2#b@t:9", "t:3#a@t:1", "t:3#b@t:8")
	checkIn(t, s, false, "t:1#a@t:2", "t:1#a@t:9", "t:1#b@t:9", "t:3#c@t:9", "t:3#c@t:8", "t:3#d@t:9")
	checkIn(t, s, true, "t:2#a@t:9", "t:2#b@t:9", "t:1#c@t:9", "t:1#d@t:9", "t:3#a@t:8")
}

func TestCheckJoins(t *testing.T) {
	s := storeOf(t, "type u\ntype t\nrel a self\nrel b self\nrel or a | b | a\nrel and a & b & a\nrel less a - b", "t:1#a@u:x", "t:1#b@u:y", "t:1#a@u:z", "t:1#b@u:z")
	for who, want := range map[string][3]bool{"x": {true, false, true}, "y": {true, false, false}, "z": {true, true, false}, "w": {}} {
		for i, relation := range []string{"or", "and", "less"} {
			checkIn(t, s, want[i], "t:1#"+relation+"@u:"+who)
			checkIn(t, s, false, "t:2#"+relation+"@u:"+who)
		}
	}
}

func TestCheckBrackets(t *testing.T) {
	s := storeOf(t, "type u\ntype t\nrel a self\nrel b self\nrel c self\nrel x ( a | b ) & c\nrel y a | ( b & c )\nrel z a - ( b - c )",
		"t:1#a@u:a", "t:1#b@u:b", "t:1#c@u:c",
		"t:1#a@u:ab", "t:1#b@u:ab", "t:1#a@u:ac", "t:1#c@u:ac", "t:1#b@u:bc", "t:1#c@u:bc",
		"t:1#a@u:abc", "t:1#b@u:abc", "t:1#c@u:abc")
	for relation, who := range map[string]string{"x": "ac bc abc", "y": "a ab ac bc abc", "z": "a ac abc"} {
		for _, id := range strings.Fields("a b c ab ac bc abc no") {
			want := strings.Contains(" "+who+" ", " "+id+" ")
			checkIn(t, s, want, "t:1#"+relation+"@u:"+id)
		}
	}
}

func TestCheckVia(t *testing.T) {
	s := storeOf(t, "type u\ntype g\nset m self\ntype d\nrel up self\nrel own self | up.own\nrel see up.m",
		"d:1#up@d:2", "d:2#up@d:3", "d:3#own@u:ann", "d:1#up@u:bob", "d:1#up@g:1", "g:1#m@u:cat", "d:4#up@g:1#m", "d:2#up@g:2", "g:2#m@g:1#m")
	checkIn(t, s, true, "d:1#own@u:ann", "d:2#own@u:ann", "d:3#own@u:ann", "d:1#see@u:cat", "d:2#see@u:cat", "d:2#see@g:1#m")
	checkIn(t, s, false,
		"d:1#own@u:bob", "d:1#see@u:bob", "d:1#see@u:ann", "d:1#see@g:1#m", "d:1#see@g:1",
		"d:4#see@u:cat", // a set is none that VIA takes
		"d:3#see@u:cat", "d:4#own@u:ann")
}

func TestCheckRings(t *testing.T) {
	// With |, from relation to relation: the least sets have nobody in a ring that nothing leads into.
	s := storeOf(t, "type u\ntype t\nrel a b\nrel b c\nrel c a | e\nrel d d\nrel e self", "t:1#e@u:x", "t:1#a@u:y", "t:1#d@u:y")
	checkIn(t, s, true, "t:1#a@u:x", "t:1#b@u:x", "t:1#c@u:x")
	checkIn(t, s, false, "t:1#a@u:y", "t:1#b@u:y", "t:1#d@u:y", "t:1#d@u:x")
	// With &: who would have to be in already to come in is not.
	s = storeOf(t, "type u\ntype t\nrel a self & b\nrel b self & a\nrel c self | ( c & d )\nrel d self & c", "t:1#a@u:x", "t:1#b@u:x", "t:1#c@u:x", "t:1#d@u:x", "t:1#d@u:y")
	checkIn(t, s, false, "t:1#a@u:x", "t:1#b@u:x", "t:1#c@u:y", "t:1#d@u:y")
	checkIn(t, s, true, "t:1#c@u:x", "t:1#d@u:x")
	// With & and |, through one another.
	s = storeOf(t, "type u\ntype t\nrel a ( a & b ) | e\nrel b ( a & self ) | ( b & e )\nrel e self", "t:1#e@u:x", "t:1#b@u:x", "t:1#b@u:y", "t:1#a@u:y")
	checkIn(t, s, true, "t:1#a@u:x", "t:1#b@u:x")
	checkIn(t, s, false, "t:1#a@u:y", "t:1#b@u:y")
}

func TestCheckRingsThroughSets(t *testing.T) {
	s := storeOf(t, "type u\ntype g\nset m self\nrel own m & self",
		"g:1#m@g:2#m", "g:2#m@g:3#m", "g:3#m@g:1#m", "g:3#m@u:ann", "g:4#m@g:4#m", "g:5#m@g:4#m", "g:1#own@u:ann", "g:2#own@g:2#m", "g:4#own@u:ann")
	for _, id := range []string{"1", "2", "3"} {
		checkIn(t, s, true, "g:"+id+"#m@u:ann", "g:"+id+"#m@g:1#m", "g:"+id+"#m@g:2#m", "g:"+id+"#m@g:3#m")
		checkIn(t, s, false, "g:"+id+"#m@u:bob", "g:"+id+"#m@g:4#m", "g:"+id+"#m@g:1")
	}
	checkIn(t, s, true, "g:4#m@g:4#m", "g:5#m@g:4#m", "g:1#own@u:ann", "g:2#own@u:ann", "g:2#own@g:1#m")
	checkIn(t, s, false, "g:4#m@u:ann", "g:5#m@u:ann", "g:5#m@g:5#m", "g:3#own@u:ann", "g:4#own@u:ann")
}

func TestCheckRingsThroughVia(t *testing.T) {
	s := storeOf(t, "type u\ntype d\nrel up self\nrel own self | up.own\nrel all self & up.all\nrel some ( up.some | own ) - banned\nrel banned self | up.banned",
		"d:1#up@d:2", "d:2#up@d:3", "d:3#up@d:1", "d:2#own@u:ann", "d:1#all@u:ann", "d:2#all@u:ann", "d:3#all@u:ann", "d:4#up@d:4", "d:4#own@u:bob", "d:5#up@d:4", "d:5#banned@u:bob", "d:6#up@d:5", "d:7#up@d:1", "d:7#banned@u:cat")
	for _, id := range []string{"1", "2", "3", "7"} {
		checkIn(t, s, true, "d:"+id+"#own@u:ann", "d:"+id+"#some@u:ann")
		checkIn(t, s, false, "d:"+id+"#all@u:ann", "d:"+id+"#own@u:bob", "d:"+id+"#own@d:1")
	}
	checkIn(t, s, true, "d:4#own@u:bob", "d:5#own@u:bob", "d:6#own@u:bob", "d:4#some@u:bob", "d:5#banned@u:bob", "d:6#banned@u:bob")
	checkIn(t, s, false, "d:5#some@u:bob", "d:6#some@u:bob", "d:4#banned@u:bob")
}

func TestCheckTakenAway(t *testing.T) {
	// One behind the other: what is taken away from what is taken away is there again.
	s := storeOf(t, "type u\ntype t\nrel z self\nrel y z - x\nrel x z - w\nrel w z - v\nrel v self | w.v", "t:1#z@u:a", "t:1#z@u:b", "t:1#v@u:b", "t:2#z@u:b", "t:2#w@t:1", "t:3#z@u:b", "t:3#w@t:2")
	checkIn(t, s, true, "t:1#w@u:a", "t:1#y@u:a", "t:1#x@u:b", "t:2#v@u:b", "t:3#v@u:b", "t:3#x@u:b")
	checkIn(t, s, false, "t:1#x@u:a", "t:1#w@u:b", "t:1#y@u:b", "t:3#w@u:b", "t:3#y@u:b", "t:4#y@u:b")
	// Sets that are said by set, taken away through self of a relation that is not.
	s = storeOf(t, "type u\ntype g\nset m self\ntype t\nrel a self\nrel b a - not\nrel not self", "g:1#m@g:2#m", "g:2#m@u:x", "t:1#a@g:1#m", "t:1#a@u:y", "t:1#not@g:2#m", "t:2#a@g:1#m", "t:2#not@u:y")
	checkIn(t, s, true, "t:1#a@u:x", "t:1#b@u:y", "t:1#b@g:1#m", "t:2#b@u:x", "t:2#b@g:2#m")
	checkIn(t, s, false, "t:1#b@u:x", "t:1#b@g:3#m", "t:2#b@u:y")
	// A set that is in by its tuple and taken away by one is not in, whoever is in it.
	putIn(t, s, "t:2#not@g:1#m")
	checkIn(t, s, false, "t:2#b@u:x", "t:2#b@g:1#m", "t:2#b@g:2#m")
}

func TestCheckFollowsWrites(t *testing.T) {
	s := storeOf(t, schemaA, "page:1#viewer@team:red#member", "team:red#member@team:blue#member", "team:blue#member@user:ann")
	asked := "page:1#viewer@user:ann"
	checkIn(t, s, true, asked)
	for _, step := range []struct {
		x    api.Tx
		want bool
	}{
		{api.Tx{Drop: []string{"team:red#member@team:blue#member"}}, false},
		{api.Tx{Put: []string{"page:1#owner@user:ann"}}, true},
		{api.Tx{Put: []string{"page:1#banned@team:blue#member"}}, false},
		{api.Tx{Drop: []string{"page:1#banned@team:blue#member"}}, true},
		{api.Tx{Must: []string{asked}, Drop: []string{"page:1#owner@user:ann"}}, true},
		{api.Tx{Drop: []string{"page:1#owner@user:ann"}}, false},
	} {
		s.Write(step.x)
		checkIn(t, s, step.want, asked)
	}
}

func TestCheckErrors(t *testing.T) {
	s := storeOf(t, schemaA, "page:7#viewer@team:red#member")
	for _, text := range []string{"page:7#viewer@user:ann", "page:7#viewer@page:8#owner", "page:7#viewer", "", "book:7#viewer@user:ann", "book:7#viewer@user:Ann", "page:7#editor@user:ann", "page:7#viewer@book:1", "page:7#viewer@user:ann#member", "page:7#viewer@team:red#viewer", "page:7#self@user:ann", "page:7#viewer@team:red#member ", strings.Repeat("page:7#viewer@", 1000)} {
		want := fitsByPattern(text)
		if in, e := s.Check(text); e != want || e != api.OK && in {
			t.Errorf("P9: Check(%.80q) = %v, %d, want %d", text, in, e, want)
		}
	}
}

// A schema and tuples as great as they may be, with one long way: every place must be found from the one behind it.
func TestCheckLongWays(t *testing.T) {
	schema := lines("type u", "type t", "rel a b", "rel b c", "rel c d | ( d & d )", "rel d e", "rel e f", "rel f self"+strings.Repeat(" | a.a", 300))
	for _, up := range []bool{true, false} {
		var l []string
		for i := range 199 {
			from, to := i, i+1
			if up {
				from, to = 199-i, 198-i
			}
			l = append(l, fmt.Sprintf("t:%03d#a@t:%03d", from, to))
		}
		first, last := l[0][:5], l[198][len(l[198])-5:]
		s := storeOf(t, schema, append(l, last+"#f@u:ann")...)
		checkIn(t, s, true, first+"#a@u:ann", first+"#f@u:ann", last+"#b@u:ann")
		checkIn(t, s, false, first+"#a@u:bob", "t:200#a@u:ann")
	}
}

func TestCheckLikeTheWords(t *testing.T) {
	random := rand.New(rand.NewSource(9))
	seen := map[string]int{}
	for seen["with a -"] < 150 || seen["without"] < 150 {
		schema := randomSchema(random)
		kind := "without"
		if strings.Contains(schema, " - ") {
			kind = "with a -"
		}
		if _, e := Schema(schema); e != api.OK || seen[kind] == 150 {
			continue
		}
		seen[kind]++
		tuples := randomTuples(random, schema, 3+random.Intn(40))
		s := storeOf(t, schema, tuples...)
		for _, one := range randomTuples(random, schema, 4) {
			_, subject, _ := strings.Cut(one, "@")
			in := placesByWords(schema, tuples, subject)
			for _, place := range slices.Sorted(maps.Keys(in)) {
				seen[kind+", in"]++
				checkIn(t, s, true, place+"@"+subject)
			}
			for _, other := range randomTuples(random, schema, 20) {
				place, _, _ := strings.Cut(other, "@")
				checkIn(t, s, in[place] == 1, place+"@"+subject)
			}
		}
		if t.Failed() {
			t.Fatalf("of the schema\n%s\nand the tuples\n%s", schema, lines(tuples...))
		}
	}
	if seen["with a -, in"] < 1000 || seen["without, in"] < 1000 {
		t.Errorf("too little was seen: %v", seen)
	}
}
