package warden

import (
	"fmt"
	"math"
	"math/rand"
	"slices"
	"strings"
	"testing"
	"unsafe"

	"warden/api"
)

// allOf is all that a store tells of itself.
func allOf(s *Store) string {
	l, e := s.Read("")
	n, safe, f := s.Revision()
	return fmt.Sprintf("%q %d %d %d %d", l, e, n, safe, f)
}

func TestStoreCallsEndAtAllTexts(t *testing.T) {
	s := storeOf(t, schemaA, owners(20)...)
	before := allOf(s)
	for _, text := range anyTexts() {
		one := []string{text}
		for _, x := range []api.Tx{{Must: one}, {Not: append(one, bad)}, {Put: append(one, bad)}, {Drop: append(one, text, text)}, {Must: one, Not: one, Put: one, Drop: one}} {
			if n, e := s.Write(x); e == api.OK || n != 0 {
				t.Errorf("P1: Write(%.80q) = %d, %d", x, n, e)
			}
		}
		if in, e := s.Check(text); in && e != api.OK || e != Fits(schemaA, text) {
			t.Errorf("P1: Check(%.80q) = %v, %d", text, in, e)
		}
		if l, e := s.Read(text); e != api.OK || len(l) > 0 && !strings.HasPrefix(l[0], text) {
			t.Errorf("P1: Read(%.80q) = %q, %d", text, l, e)
		}
		_, wrong := Schema(text)
		if u, e := Open(text, nil, quiet); e != wrong || (u == nil) != (wrong != api.OK) {
			t.Errorf("P1: Open(%.80q) = %v, %d, want %d", text, u, e, wrong)
		}
	}
	if after := allOf(s); after != before {
		t.Errorf("P1: refused calls made %s of %s", after, before)
	}
}

func TestOpenEndsAtAllNumbers(t *testing.T) {
	numbers := []int{math.MinInt, -2, -1, 0, 1, 2, 11, 12, 13, math.MaxInt}
	for _, first := range numbers {
		for _, second := range numbers {
			for _, o := range []api.Options{{Crash: first, Full: second}, {Crash: api.Never, Full: api.Never, Keeps: []int{first, second}, Dirs: second}} {
				low := min(o.Crash, o.Full) < -1 || o.Dirs < 0 || len(o.Keeps) > 0 && slices.Min(o.Keeps) < 0
				if s, e := Open(schemaA, nil, o); low != (e == api.ErrOption) || low != (s == nil) {
					t.Errorf("P1: Open with %+v: %v, %d", o, s, e)
				}
				if !low {
					checkCalls(t, nil, o, toPut(ann), toFlush, toPut(bob), toCheckpoint)
				}
			}
		}
	}
}

func TestRefusedWritesChangeNothing(t *testing.T) {
	l := owners(201)
	s := storeOf(t, schemaA, l[:200]...)
	before := allOf(s)
	for _, x := range []api.Tx{
		{Put: l[:16], Drop: l[16:17]}, {Drop: []string{l[0], bad}}, {Drop: []string{l[0], unfit}}, {Drop: []string{l[0], l[1], l[0]}}, {Must: l[200:], Drop: l[:1]}, {Not: l[:1], Drop: l[:1]}, {Put: l[200:]},
	} {
		if n, e := s.Write(x); n != 0 || e == api.OK {
			t.Errorf("P1: Write(%q) = %d, %d", x, n, e)
		}
		if after := allOf(s); after != before {
			t.Errorf("P1: behind a refused Write of %q there is %s", x, after)
		}
	}
}

// filled is a list with spare room that is filled too.
func filled(l ...string) []string {
	return slices.Concat(l, []string{"behind", "more"})[:len(l)]
}

func TestListsHandedInStayAsTheyAre(t *testing.T) {
	s := newStore(t, schemaA)
	for _, x := range []api.Tx{
		{Not: filled(cat, bob, ann), Put: filled(cat, ann), Drop: filled(bob)},
		{Must: filled(cat, ann, cat), Not: filled(bob), Put: filled(bob), Drop: filled(cat)},
		{Must: filled(cat), Put: filled(cat, bob)},
		{Put: filled(cat, bob, cat), Drop: filled(cat, ann)},
		{Put: filled(cat, bad), Drop: filled(cat, ann)},
	} {
		all := func() string {
			return fmt.Sprintf("%q", [][]string{x.Must[:cap(x.Must)], x.Not[:cap(x.Not)], x.Put[:cap(x.Put)], x.Drop[:cap(x.Drop)]})
		}
		before := all()
		s.Write(x)
		if after := all(); after != before {
			t.Errorf("P2: Write made %s of %s", after, before)
		}
	}
	files := []api.File{{Name: "z", Data: "1"}, {Name: "a", Data: "2"}, {Name: "m"}, {Name: "behind"}}
	keeps := []int{7, 3, 5, 4}
	o := api.Options{Crash: api.Never, Full: api.Never, Keeps: keeps[:3]}
	if _, e := Open(schemaA, files[:3], o); e != api.OK {
		t.Fatalf("P6: Open: %d", e)
	}
	if fmt.Sprint(files, keeps) != "[{z 1} {a 2} {m } {behind }] [7 3 5 4]" {
		t.Errorf("P2: behind Open the lists are %v, %v", files, keeps)
	}
}

func TestListsHandedInAreNotKept(t *testing.T) {
	s := newStore(t, schemaA)
	x := api.Tx{Put: []string{bob, ann}}
	checkWrite(t, s, x, 1, api.OK)
	x.Put[0], x.Put[1] = cat, bad
	checkRead(t, s, "", ann, bob)
	checkIn(t, s, false, cat)
}

// ofBytes is a text whose bytes can be written into behind its back.
func ofBytes(b []byte) string { return unsafe.String(&b[0], len(b)) }

func TestTextsHandedInAreNotKept(t *testing.T) {
	schema, tuple, dropped := []byte(schemaA), []byte(ann), []byte(bob)
	s, e := Open(ofBytes(schema), nil, quiet)
	if e != api.OK {
		t.Fatalf("P6: Open: %d", e)
	}
	checkWrite(t, s, api.Tx{Must: nil, Not: []string{ofBytes(tuple)}, Put: []string{ofBytes(tuple)}, Drop: []string{ofBytes(dropped)}}, 1, api.OK)
	checkWrite(t, s, api.Tx{Must: []string{ofBytes(tuple)}, Put: []string{ofBytes(tuple)}}, 2, api.OK)
	for _, b := range [][]byte{schema, tuple, dropped} {
		for i := range b {
			b[i] = 'x'
		}
	}
	checkRead(t, s, "", ann)
	checkIn(t, s, true, ann, "page:1#viewer@user:ann")
	checkIn(t, s, false, bob)
}

func TestReadListsAreNewMemory(t *testing.T) {
	for count := range 40 {
		want := owners(count)
		s := storeOf(t, schemaA, want...)
		mine, _ := s.Read("")
		other, _ := s.Read("")
		for i := range mine {
			b := unsafe.Slice(unsafe.StringData(mine[i]), len(mine[i]))
			b[0] = 'x'
		}
		for i := range mine[:cap(mine)] {
			mine[:cap(mine)][i] = "mine"
		}
		if !slices.Equal(other, want) || slices.Contains(other[:cap(other)], "mine") {
			t.Errorf("P2: two lists of Read share memory: %q", other[:cap(other)])
		}
		checkRead(t, s, "", want...)
	}
}

// course is what a store answers to calls that are drawn, but always the same ones.
func course(t *testing.T) string {
	random := rand.New(rand.NewSource(10))
	s := newStore(t, schemaA)
	var told strings.Builder
	for range 60 {
		put, drop := randomTuples(random, schemaA, 4), randomTuples(random, schemaA, 2)
		n, e := s.Write(api.Tx{Put: put, Drop: drop})
		fmt.Fprintln(&told, n, e, allOf(s))
		for _, asked := range randomTuples(random, schemaA, 10) {
			in, e := s.Check(asked)
			fmt.Fprintln(&told, asked, in, e)
		}
	}
	return told.String()
}

func TestStoreAnswersHangOnItsCallsAlone(t *testing.T) {
	told := course(t)
	if strings.Count(told, "true") < 20 || strings.Count(told, "false") < 20 {
		t.Errorf("too little was asked: %s", told)
	}
	checkSame(t, course)
}
