package warden

import (
	"math/rand"
	"testing"

	"warden/api"
)

// noRoom: there is none from an operation on.
func noRoom(number int) api.Options { return api.Options{Crash: api.Never, Full: number} }

func TestNoRoomFromEachOperationOn(t *testing.T) {
	for _, c := range coursesOfCalls() {
		for number := range c.operations(t) + 2 {
			like := checkCalls(t, c.files, noRoom(number), c.calls...)
			checkCalls(t, like.files(), quiet, toPut(ann), toCheckpoint)
		}
		checkCalls(t, c.files, noRoom(far), c.calls...)
	}
}

func TestNoRoomAndNoPower(t *testing.T) {
	for _, c := range coursesOfCalls() {
		operations := c.operations(t)
		for lost := range operations + 1 {
			for full := range operations + 1 {
				checkCalls(t, c.files, api.Options{Crash: lost, Full: full, Dirs: 1, Keeps: []int{5}}, c.calls...)
			}
		}
	}
}

func TestNoRoomForANewStore(t *testing.T) {
	base := framesOf("0", "end")
	// Where the operation itself needs no room, the next one that does finds none.
	for number, want := range [][]string{
		nil,
		{"c0", ""},
		{"c0", framesOf("0")},
		{"c0", base},
		{"c0", base},
		{"c0", base, "l0", ""},
		{"c0", base, "l0", ""},
		{"c0", base, "l0", ""},
		{"MANIFEST~", "", "c0", base, "l0", ""},
	} {
		s, e := Open(schemaA, nil, noRoom(number))
		if s == nil || e != api.ErrFull {
			t.Errorf("P14: Open with no room from %d on = %v, %d", number, s, e)
			continue
		}
		checkFiles(t, s, want...)
		checkMute(t, s, api.ErrFull)
		checkFiles(t, s, want...)
		checkLog(t, openedOf(t, schemaA, s.Files()))
	}
	for number := 9; number < 14; number++ {
		s, e := Open(schemaA, nil, noRoom(number))
		if e != api.OK {
			t.Fatalf("P14: Open with no room from %d on = %d", number, e)
		}
		checkLog(t, s)
	}
}

func TestNoRoomIsNotNeededToSweep(t *testing.T) {
	files := filesOf(append(withAnn(framesOf("8\n+"+bob)+"torn"), "x", "y", "MANIFEST~", "")...)
	s, e := Open(schemaA, files, noRoom(0))
	if e != api.OK {
		t.Fatalf("P14: Open = %d", e)
	}
	checkFiles(t, s, withAnn(framesOf("8\n+"+bob))...)
	flush(t, s)
	checkWrite(t, s, api.Tx{Put: []string{cat}}, 9, api.OK)
	if e := s.Flush(); e != api.ErrFull {
		t.Errorf("P14: Flush = %d", e)
	}
	checkFiles(t, s, withAnn(framesOf("8\n+"+bob))...)
	checkRevision(t, s, 9, 8)
}

func TestNoRoomInFlush(t *testing.T) {
	for number := range 2 {
		s, e := Open(schemaA, filesOf(withAnn("")...), noRoom(2*number))
		if e != api.OK {
			t.Fatalf("P14: Open = %d", e)
		}
		safe := 7
		for range number {
			safe++
			checkWrite(t, s, api.Tx{}, safe, api.OK)
			flush(t, s)
		}
		before := s.Files()
		checkWrite(t, s, api.Tx{Put: []string{bob}}, safe+1, api.OK)
		checkWrite(t, s, api.Tx{Drop: []string{ann}}, safe+2, api.OK)
		if e := s.Flush(); e != api.ErrFull {
			t.Errorf("P14: Flush = %d", e)
		}
		for range 2 {
			checkReadOnly(t, s)
			checkRevision(t, s, safe+2, safe)
			checkRead(t, s, "", bob)
			checkIn(t, s, true, bob, "page:1#viewer@user:bob")
			checkIn(t, s, false, ann)
		}
		u := openedOf(t, schemaA, s.Files())
		checkRevision(t, u, safe, safe)
		checkRead(t, u, "", ann)
		for i, f := range u.Files() {
			if f != before[i] {
				t.Errorf("P14: Flush has left %q, there was %q", f, before[i])
			}
		}
	}
}

// Power lost and no room, again and again, on courses that are drawn.
func TestDrawnCourses(t *testing.T) {
	random := rand.New(rand.NewSource(42))
	all := randomTuples(random, schemaA, 20)
	seen := map[api.Errno]int{}
	for range 1500 {
		var files []api.File
		if random.Intn(4) == 0 {
			files = randomFiles(random, all)
		}
		for range 4 {
			o := randomCrash(random, random.Intn(60)-1)
			if random.Intn(2) == 0 {
				o.Full = random.Intn(40) - 1
			}
			like := checkCalls(t, files, o, randomCalls(random, all)...)
			seen[like.refused()]++
			files = like.files()
		}
	}
	for _, e := range []api.Errno{api.OK, api.ErrCorrupt, api.ErrFull, api.ErrReadOnly, api.ErrLost} {
		if seen[e] < 100 {
			t.Errorf("a course ended in %d only %d times", e, seen[e])
		}
	}
}

func randomCalls(random *rand.Rand, all []string) []call {
	var calls []call
	for range random.Intn(12) {
		calls = append(calls, randomCall(random, all))
	}
	return calls
}

func randomCall(random *rand.Rand, all []string) call {
	switch random.Intn(6) {
	case 0:
		return toCheckpoint
	case 1, 2:
		return toFlush
	}
	l := some(random, all)
	cut := random.Intn(len(l) + 1)
	return call{"Write", api.Tx{Put: l[:cut], Drop: l[cut:]}}
}
