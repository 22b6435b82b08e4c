package warden

import (
	"maps"
	"math/rand"
	"slices"
	"testing"

	"warden/api"
)

const (
	ann   = "page:1#owner@user:ann"
	bob   = "page:1#owner@user:bob"
	cat   = "page:1#owner@user:cat"
	bad   = "page"
	unfit = "page:1#owner@user:ann#member"
)

func TestWriteExamples(t *testing.T) {
	s := newStore(t, schemaA)
	checkWrite(t, s, api.Tx{Put: []string{"page:7#viewer@team:red#member", "team:red#member@user:ann"}}, 1, api.OK)
	checkIn(t, s, true, "page:7#viewer@user:ann", "page:7#viewer@team:red#member")
	checkIn(t, s, false, "page:7#viewer@user:bob")
	checkWrite(t, s, api.Tx{Put: []string{"page:7#banned@user:ann"}}, 2, api.OK)
	checkIn(t, s, false, "page:7#viewer@user:ann")
	checkWrite(t, s, api.Tx{Must: []string{"team:red#member@user:bob"}}, 0, api.ErrCondition)
	checkRevision(t, s, 2, 0)
	checkRead(t, s, "", "page:7#banned@user:ann", "page:7#viewer@team:red#member", "team:red#member@user:ann")
}

func TestWriteChanges(t *testing.T) {
	s := newStore(t, schemaA)
	for i, step := range []struct {
		x    api.Tx
		want []string
	}{
		{api.Tx{}, nil},
		{api.Tx{Put: []string{cat, ann}}, []string{ann, cat}},
		{api.Tx{Put: []string{ann}}, []string{ann, cat}},
		{api.Tx{Drop: []string{bob}}, []string{ann, cat}},
		{api.Tx{Put: []string{bob}, Drop: []string{ann}}, []string{bob, cat}},
		{api.Tx{Drop: []string{cat, ann, bob}}, nil},
		{api.Tx{Drop: []string{cat}}, nil},
		{api.Tx{Put: []string{cat}}, []string{cat}},
		{api.Tx{Must: []string{cat}, Not: []string{ann}}, []string{cat}},
	} {
		checkWrite(t, s, step.x, i+1, api.OK)
		checkRead(t, s, "", step.want...)
		checkRevision(t, s, i+1, 0)
	}
}

func TestWriteSixteen(t *testing.T) {
	l := owners(17)
	for _, cuts := range [][3]int{{0, 0, 0}, {0, 0, 17}, {0, 17, 17}, {17, 17, 17}, {4, 8, 12}, {0, 0, 8}, {1, 2, 3}} {
		// The first lists hold tuples that are not there, so that no condition but Not is met.
		x := api.Tx{Must: l[:cuts[0]], Not: l[cuts[0]:cuts[1]], Put: l[cuts[1]:cuts[2]], Drop: l[cuts[2]:]}
		s := newStore(t, schemaA)
		checkWrite(t, s, x, 0, api.ErrLong)
		if cuts[0] > 0 {
			putIn(t, s, l[:cuts[0]]...)
		}
		before, _, _ := s.Revision()
		checkWrite(t, s, x, 0, api.ErrLong)
		checkWrite(t, s, without(x), before+1, api.OK)
	}
	for _, text := range []string{bad, unfit, ann} {
		s := newStore(t, schemaA)
		many := slices.Repeat([]string{text}, 17)
		for _, x := range []api.Tx{{Must: many}, {Not: many}, {Put: many}, {Drop: many}, {Must: many[:5], Not: many[:4], Put: many[:4], Drop: many[:4]}, {Put: slices.Repeat(many, 1000)}} {
			checkWrite(t, s, x, 0, api.ErrLong)
		}
	}
}

// without is a transaction with one tuple less, out of the last list that has any.
func without(x api.Tx) api.Tx {
	for _, l := range []*[]string{&x.Drop, &x.Put, &x.Not, &x.Must} {
		if len(*l) > 0 {
			*l = (*l)[1:]
			return x
		}
	}
	return x
}

func TestWriteTwoHundred(t *testing.T) {
	l := owners(203)
	s := newStore(t, schemaA)
	putIn(t, s, l[:199]...)
	checkRevision(t, s, 13, 0)
	checkWrite(t, s, api.Tx{Put: l[199:201]}, 0, api.ErrLong)
	checkWrite(t, s, api.Tx{Put: l[198:200]}, 14, api.OK)
	checkWrite(t, s, api.Tx{Put: l[200:201]}, 0, api.ErrLong)
	checkWrite(t, s, api.Tx{Put: []string{l[7], l[200]}}, 0, api.ErrLong)
	// What is not there makes no room when it is dropped.
	checkWrite(t, s, api.Tx{Put: l[200:201], Drop: l[201:202]}, 0, api.ErrLong)
	checkWrite(t, s, api.Tx{Put: l[200:202], Drop: []string{l[0], l[202]}}, 0, api.ErrLong)
	checkRead(t, s, "", l[:200]...)
	checkRevision(t, s, 14, 0)
	checkWrite(t, s, api.Tx{}, 15, api.OK)
	checkWrite(t, s, api.Tx{Must: l[:8], Not: l[200:203], Drop: l[201:202]}, 16, api.OK)
	checkWrite(t, s, api.Tx{Put: l[:16]}, 17, api.OK)
	checkWrite(t, s, api.Tx{Put: l[200:203], Drop: l[:3]}, 18, api.OK)
	checkRead(t, s, "", l[3:]...)
	checkWrite(t, s, api.Tx{Put: l[:1]}, 0, api.ErrLong)
	checkWrite(t, s, api.Tx{Drop: l[3:5]}, 19, api.OK)
	checkWrite(t, s, api.Tx{Put: l[:3]}, 0, api.ErrLong)
	checkWrite(t, s, api.Tx{Put: l[:2]}, 20, api.OK)
}

func TestWriteWrongTuples(t *testing.T) {
	s := newStore(t, schemaA)
	for text, want := range map[string]api.Errno{"": api.ErrText, bad: api.ErrText, "page:1#owner@User:ann": api.ErrText, ann + "\n": api.ErrText, unfit: api.ErrFit, "book:1#owner@user:ann": api.ErrFit, "page:1#owner@page:1#owner": api.ErrFit} {
		for _, x := range []api.Tx{{Must: []string{text}}, {Not: []string{text}}, {Put: []string{text}}, {Drop: []string{text}}, {Not: []string{ann, text}, Put: []string{ann}}, {Put: []string{ann}, Drop: []string{bob, text}}} {
			checkWrite(t, s, x, 0, want)
		}
	}
	checkRead(t, s, "")
	checkRevision(t, s, 0, 0)
}

func TestWriteErrorOfTheFirstTuple(t *testing.T) {
	s := newStore(t, schemaA)
	lists := func(x *api.Tx) []*[]string { return []*[]string{&x.Must, &x.Not, &x.Put, &x.Drop} }
	for first := range 4 {
		for second := first; second < 4; second++ {
			for texts, want := range map[[2]string]api.Errno{{bad, unfit}: api.ErrText, {unfit, bad}: api.ErrFit} {
				x := api.Tx{Must: []string{ann}, Not: []string{ann}, Put: []string{ann}, Drop: []string{ann}}
				for i, place := range []int{first, second} {
					l := lists(&x)[place]
					*l = append(*l, texts[i])
				}
				checkWrite(t, s, x, 0, want)
			}
		}
	}
	// A text that is no tuple, of a type that there is not either.
	checkWrite(t, s, api.Tx{Put: []string{"book:1#owner@user:Ann"}}, 0, api.ErrText)
}

func TestWriteTwice(t *testing.T) {
	s := newStore(t, schemaA)
	putIn(t, s, ann)
	for _, x := range []api.Tx{
		{Put: []string{bob, bob}}, {Drop: []string{bob, bob}}, {Put: []string{bob}, Drop: []string{bob}}, {Put: []string{ann, bob, ann}}, {Drop: []string{ann, bob, cat, ann}}, {Put: []string{cat, bob}, Drop: []string{ann, cat}}, {Put: []string{ann, ann}},
		{Must: []string{bob}, Put: []string{cat, cat}}, {Not: []string{ann}, Drop: []string{cat, cat}},
	} {
		checkWrite(t, s, x, 0, api.ErrTwice)
	}
	checkRead(t, s, "", ann)
	// In Must and Not a tuple may stand as often as it likes.
	checkWrite(t, s, api.Tx{Must: []string{ann, ann}, Not: []string{bob, bob}, Put: []string{bob}, Drop: []string{ann}}, 2, api.OK)
	checkWrite(t, s, api.Tx{Must: []string{bob}, Put: []string{bob}}, 3, api.OK)
	checkWrite(t, s, api.Tx{Not: []string{ann}, Drop: []string{ann}}, 4, api.OK)
	checkRead(t, s, "", bob)
}

func TestWriteConditions(t *testing.T) {
	s := newStore(t, schemaA)
	putIn(t, s, ann, bob)
	for _, x := range []api.Tx{
		{Must: []string{cat}}, {Must: []string{ann, cat}}, {Must: []string{cat, ann}}, {Not: []string{ann}}, {Not: []string{cat, bob}}, {Not: []string{ann, cat}}, {Must: []string{ann}, Not: []string{ann}}, {Must: []string{cat}, Not: []string{cat}},
		// What counts is the store ahead of the changes.
		{Must: []string{cat}, Put: []string{cat}}, {Not: []string{ann}, Drop: []string{ann}},
		// By tuples, not by who is in.
		{Must: []string{"page:1#viewer@user:ann"}},
	} {
		checkWrite(t, s, x, 0, api.ErrCondition)
	}
	checkRead(t, s, "", ann, bob)
	checkRevision(t, s, 1, 0)
	checkWrite(t, s, api.Tx{Must: []string{bob, ann}, Not: []string{cat, "page:1#viewer@user:ann"}, Put: []string{cat}, Drop: []string{bob}}, 2, api.OK)
	checkRead(t, s, "", ann, cat)
}

func TestWriteErrorNamedFirst(t *testing.T) {
	s := newStore(t, schemaA)
	l := owners(201)
	putIn(t, s, l[:200]...)
	more, there := l[200], l[0]
	for _, c := range []struct {
		x api.Tx
		e api.Errno
	}{
		{api.Tx{Must: []string{more}, Put: append(slices.Repeat([]string{more}, 15), bad)}, api.ErrLong},
		{api.Tx{Must: []string{more}, Put: []string{more, more, bad}}, api.ErrText},
		{api.Tx{Must: []string{more}, Put: []string{more, more, unfit}}, api.ErrFit},
		{api.Tx{Must: []string{more}, Put: []string{more, more}}, api.ErrTwice},
		{api.Tx{Not: []string{there}, Put: []string{more}, Drop: []string{more}}, api.ErrTwice},
		{api.Tx{Must: []string{more}, Put: []string{more}}, api.ErrCondition},
		{api.Tx{Not: []string{there}, Put: []string{more}}, api.ErrCondition},
		{api.Tx{Must: []string{there}, Put: []string{more}}, api.ErrLong},
	} {
		checkWrite(t, s, c.x, 0, c.e)
	}
	checkRead(t, s, "", l[:200]...)
	checkRevision(t, s, 13, 0)
}

// likeMap does a transaction on a map, word by word as P7 has it.
func likeMap(tuples map[string]int, x api.Tx) api.Errno {
	if len(slices.Concat(x.Must, x.Not, x.Put, x.Drop)) > 16 {
		return api.ErrLong
	}
	for _, text := range slices.Concat(x.Must, x.Not, x.Put, x.Drop) {
		if e := fitsByPattern(text); e != api.OK {
			return e
		}
	}
	times := map[string]int{}
	for _, text := range slices.Concat(x.Put, x.Drop) {
		if times[text]++; times[text] > 1 {
			return api.ErrTwice
		}
	}
	for _, text := range x.Must {
		if tuples[text] == 0 {
			return api.ErrCondition
		}
	}
	for _, text := range x.Not {
		if tuples[text] == 1 {
			return api.ErrCondition
		}
	}
	next := maps.Clone(tuples)
	for _, text := range x.Put {
		next[text] = 1
	}
	for _, text := range x.Drop {
		delete(next, text)
	}
	if len(next) > 200 {
		return api.ErrLong
	}
	clear(tuples)
	maps.Copy(tuples, next)
	return api.OK
}

func TestWriteLikeAMap(t *testing.T) {
	random := rand.New(rand.NewSource(6))
	all := owners(220)
	pick := func(most int) []string {
		var l []string
		for range random.Intn(most + 1) {
			text := all[random.Intn(len(all))]
			if random.Intn(100) == 0 {
				text = randomWord(random, bad, unfit, "", changed(text, "az:#@", random.Intn))
			}
			l = append(l, text)
		}
		return l
	}
	seen := map[api.Errno]int{}
	for range 20 {
		s := newStore(t, schemaA)
		tuples := map[string]int{}
		revision := 0
		for range 300 {
			x := api.Tx{Must: pick(1), Not: pick(1), Put: pick(14), Drop: pick(2)}
			want, number := likeMap(tuples, x), 0
			if want == api.OK {
				revision++
				number = revision
			}
			seen[want]++
			checkWrite(t, s, x, number, want)
			checkRead(t, s, "", slices.Sorted(maps.Keys(tuples))...)
			checkRevision(t, s, revision, 0)
		}
	}
	for _, e := range []api.Errno{api.OK, api.ErrLong, api.ErrText, api.ErrFit, api.ErrTwice, api.ErrCondition} {
		if seen[e] < 50 {
			t.Errorf("the transactions had error %d only %d times", e, seen[e])
		}
	}
}
