package warden

import (
	"fmt"
	"maps"
	"math/rand"
	"slices"
	"strings"
	"testing"

	"warden/api"
)

func TestFilesOfANewStore(t *testing.T) {
	for _, schema := range []string{"", "type t", schemaA} {
		checkFiles(t, newStore(t, schema), "MANIFEST", framesOf("0"), "c0", framesOf("0", "end"), "l0", "")
	}
}

func TestFlushExample(t *testing.T) {
	s := newStore(t, schemaA)
	checkWrite(t, s, api.Tx{Put: []string{"page:7#viewer@team:red#member", "team:red#member@user:ann"}}, 1, api.OK)
	checkWrite(t, s, api.Tx{Put: []string{"page:7#banned@user:ann"}}, 2, api.OK)
	checkRevision(t, s, 2, 0)
	flush(t, s)
	checkRevision(t, s, 2, 2)
	checkFiles(t, s, "MANIFEST", framesOf("0"), "c0", framesOf("0", "end"),
		"l0", framesOf("1\n+page:7#viewer@team:red#member\n+team:red#member@user:ann", "2\n+page:7#banned@user:ann"))
}

// checkLog: a store in epoch 0, whose checkpoint has nothing, has a log with these payloads.
func checkLog(t *testing.T, s *Store, payloads ...string) {
	t.Helper()
	checkFiles(t, s, "MANIFEST", framesOf("0"), "c0", framesOf("0", "end"), "l0", framesOf(payloads...))
}

func TestFlushOfEachKind(t *testing.T) {
	var want []string
	s := newStore(t, schemaA)
	for i, c := range []struct {
		x       api.Tx
		payload string
	}{
		{api.Tx{}, ""},
		{api.Tx{Put: []string{cat, ann, bob}}, "\n+" + cat + "\n+" + ann + "\n+" + bob},
		{api.Tx{Put: []string{bob, ann}}, "\n+" + bob + "\n+" + ann}, // there already
		{api.Tx{Drop: []string{cat, ann}}, "\n-" + cat + "\n-" + ann},
		{api.Tx{Drop: []string{cat}}, "\n-" + cat}, // not there
		{api.Tx{Put: []string{cat}, Drop: []string{ann, bob}}, "\n+" + cat + "\n-" + ann + "\n-" + bob},
		{api.Tx{Must: []string{cat}, Not: []string{ann, bob}}, ""},
		{api.Tx{Must: []string{cat}, Not: []string{ann}, Put: []string{bob}, Drop: []string{cat}}, "\n+" + bob + "\n-" + cat},
		{api.Tx{Put: owners(16)}, "\n+" + strings.Join(owners(16), "\n+")},
		{api.Tx{Drop: owners(16)}, "\n-" + strings.Join(owners(16), "\n-")},
	} {
		checkWrite(t, s, c.x, i+1, api.OK)
		checkLog(t, s, want...)
		checkRevision(t, s, i+1, i)
		want = append(want, fmt.Sprint(i+1)+c.payload)
		flush(t, s)
		checkLog(t, s, want...)
		checkRevision(t, s, i+1, i+1)
	}
	checkRead(t, s, "", bob)
	checkRead(t, openedOf(t, schemaA, s.Files()), "", bob)
}

func TestFlushOfNothing(t *testing.T) {
	s := newStore(t, schemaA)
	flush(t, s)
	checkLog(t, s)
	checkRevision(t, s, 0, 0)
	putIn(t, s, ann)
	flush(t, s)
	flush(t, s)
	checkLog(t, s, "1\n+"+ann)
	checkRevision(t, s, 1, 1)
	s = openedOf(t, schemaA, s.Files())
	flush(t, s)
	checkLog(t, s, "1\n+"+ann)
	checkRevision(t, s, 1, 1)
}

func TestFlushLeavesOutWhatWasRefused(t *testing.T) {
	s := newStore(t, schemaA)
	putIn(t, s, ann)
	for _, x := range []api.Tx{{Put: owners(17)}, {Put: []string{bob, bad}}, {Put: []string{bob, unfit}}, {Put: []string{bob, bob}}, {Must: []string{bob}}, {Not: []string{ann}, Put: []string{bob}}} {
		if _, e := s.Write(x); e == api.OK {
			t.Errorf("P7: Write(%q) = OK", x)
		}
	}
	s.Check(bob)
	s.Read("")
	putIn(t, s, cat)
	flush(t, s)
	checkLog(t, s, "1\n+"+ann, "2\n+"+cat)
}

func TestFlushHasWhatWasHandedOver(t *testing.T) {
	s := newStore(t, schemaA)
	put, drop := []byte(ann), []byte(bob)
	x := api.Tx{Put: []string{ofBytes(put), cat}, Drop: []string{ofBytes(drop)}}
	checkWrite(t, s, x, 1, api.OK)
	put[0], drop[0], x.Put[1] = 'x', 'x', bad
	flush(t, s)
	checkLog(t, s, "1\n+"+ann+"\n+"+cat+"\n-"+bob)
}

func TestCheckpointFiles(t *testing.T) {
	s := newStore(t, schemaA)
	checkpoint(t, s)
	checkFiles(t, s, "MANIFEST", framesOf("1"), "c1", framesOf("0", "end"), "l1", "")
	putIn(t, s, cat, ann)
	checkWrite(t, s, api.Tx{Put: []string{bob}, Drop: []string{cat}}, 2, api.OK)
	checkRevision(t, s, 2, 0)
	checkpoint(t, s)
	checkFiles(t, s, "MANIFEST", framesOf("2"), "c2", framesOf("2", ann, bob, "end"), "l2", "")
	checkRevision(t, s, 2, 2)
	checkRead(t, s, "", ann, bob)
	checkWrite(t, s, api.Tx{Drop: []string{ann}}, 3, api.OK)
	flush(t, s)
	checkFiles(t, s, "MANIFEST", framesOf("2"), "c2", framesOf("2", ann, bob, "end"), "l2", framesOf("3\n-"+ann))
	for epoch := range 12 {
		checkpoint(t, s)
		number := fmt.Sprint(epoch + 3)
		checkFiles(t, s, "MANIFEST", framesOf(number), "c"+number, framesOf("3", bob, "end"), "l"+number, "")
	}
	checkRevision(t, s, 3, 3)
	checkIn(t, s, true, bob, "page:1#viewer@user:bob")
}

func TestCheckpointOfAllTuples(t *testing.T) {
	l := owners(200)
	mixed := slices.Clone(l)
	slices.Reverse(mixed)
	s := storeOf(t, schemaA, mixed...)
	checkpoint(t, s)
	payloads := slices.Concat([]string{"13"}, l, []string{"end"})
	checkFiles(t, s, "MANIFEST", framesOf("1"), "c1", framesOf(payloads...), "l1", "")
	s = openedOf(t, schemaA, s.Files())
	checkRead(t, s, "", l...)
	checkRevision(t, s, 13, 13)
	checkWrite(t, s, api.Tx{Put: owners(201)[200:]}, 0, api.ErrLong)
	checkWrite(t, s, api.Tx{Put: owners(201)[200:], Drop: l[:1]}, 14, api.OK)
}

func TestTheLastEpoch(t *testing.T) {
	s := opened(t, schemaA, "MANIFEST", framesOf("999999998"), "c999999998", framesOf("7", ann, "end"), "l999999998", "")
	checkpoint(t, s)
	checkFiles(t, s, "MANIFEST", framesOf("999999999"), "c999999999", framesOf("7", ann, "end"), "l999999999", "")
	putIn(t, s, bob)
	checkpoint(t, s)
	checkFiles(t, s, "MANIFEST", framesOf("0"), "c0", framesOf("8", ann, bob, "end"), "l0", "")
	putIn(t, s, cat)
	flush(t, s)
	checkFiles(t, s, "MANIFEST", framesOf("0"), "c0", framesOf("8", ann, bob, "end"), "l0", framesOf("9\n+"+cat))
	checkpoint(t, s)
	checkFiles(t, s, "MANIFEST", framesOf("1"), "c1", framesOf("9", ann, bob, cat, "end"), "l1", "")
}

func TestTheLastRevision(t *testing.T) {
	for _, s := range []*Store{
		opened(t, schemaA, "MANIFEST", framesOf("0"), "c0", framesOf("999999998", "end"), "l0", ""),
		opened(t, schemaA, "MANIFEST", framesOf("0"), "c0", framesOf("999999997", bob, "end"), "l0", framesOf("999999998\n-"+bob)),
	} {
		checkRevision(t, s, 999999998, 999999998)
		checkWrite(t, s, api.Tx{Put: []string{ann}}, 999999999, api.OK)
		for _, x := range []api.Tx{{}, {Put: []string{bob}}, {Drop: []string{ann}}} {
			checkWrite(t, s, x, 0, api.ErrLong)
		}
		checkRevision(t, s, 999999999, 999999998)
		flush(t, s)
		checkpoint(t, s)
		checkRevision(t, s, 999999999, 999999999)
		checkFiles(t, s, "MANIFEST", framesOf("1"), "c1", framesOf("999999999", ann, "end"), "l1", "")
		u := openedOf(t, schemaA, s.Files())
		checkRevision(t, u, 999999999, 999999999)
		checkWrite(t, u, api.Tx{}, 0, api.ErrLong)
		checkRead(t, u, "", ann)
	}
}

// likeADisk is what a store should have on its disk, told by the document's words.
type likeADisk struct {
	epoch, revision, safe int
	tuples                map[string]int
	base, log, waiting    []string
}

func (d *likeADisk) write(x api.Tx) {
	d.revision++
	payload := fmt.Sprint(d.revision)
	for _, tuple := range x.Put {
		d.tuples[tuple] = 1
		payload += "\n+" + tuple
	}
	for _, tuple := range x.Drop {
		delete(d.tuples, tuple)
		payload += "\n-" + tuple
	}
	d.waiting = append(d.waiting, payload)
}

func (d *likeADisk) flush() {
	d.log = append(d.log, d.waiting...)
	d.waiting, d.safe = nil, d.revision
}

func (d *likeADisk) checkpoint() {
	d.flush()
	d.epoch++
	d.log = nil
	d.base = slices.Concat([]string{fmt.Sprint(d.revision)}, slices.Sorted(maps.Keys(d.tuples)), []string{"end"})
}

func (d *likeADisk) check(t *testing.T, s *Store) {
	t.Helper()
	number := fmt.Sprint(d.epoch)
	checkFiles(t, s, "MANIFEST", framesOf(number), "c"+number, framesOf(d.base...), "l"+number, framesOf(d.log...))
	checkRevision(t, s, d.revision, d.safe)
	checkRead(t, s, "", slices.Sorted(maps.Keys(d.tuples))...)
}

func TestCoursesOnADisk(t *testing.T) {
	random := rand.New(rand.NewSource(21))
	for range 60 {
		s, like := newStore(t, schemaA), &likeADisk{tuples: map[string]int{}, base: []string{"0", "end"}}
		for range 60 {
			switch random.Intn(8) {
			case 0:
				checkpoint(t, s)
				like.checkpoint()
			case 1, 2:
				flush(t, s)
				like.flush()
			case 3:
				if len(like.waiting) == 0 {
					s = openedOf(t, schemaA, s.Files())
				}
			default:
				l := randomTuples(random, schemaA, 6)
				cut := random.Intn(len(l) + 1)
				x := api.Tx{Put: l[:cut], Drop: l[cut:]}
				checkWrite(t, s, x, like.revision+1, api.OK)
				like.write(x)
			}
			like.check(t, s)
		}
		// What was not made safe is not on the disk.
		waiting := len(like.waiting)
		checkRevision(t, openedOf(t, schemaA, s.Files()), like.revision-waiting, like.safe)
	}
}
