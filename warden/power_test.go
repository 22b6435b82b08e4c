package warden

import (
	"fmt"
	"math"
	"math/rand"
	"slices"
	"testing"

	"warden/api"
)

// crash: power is lost ahead of an operation.
func crash(number, dirs int, keeps ...int) api.Options {
	return api.Options{Crash: number, Full: api.Never, Dirs: dirs, Keeps: keeps}
}

var (
	toFlush      = call{what: "Flush"}
	toCheckpoint = call{what: "Checkpoint"}
)

func toPut(tuples ...string) call { return call{"Write", api.Tx{Put: tuples}} }

func toDrop(tuples ...string) call { return call{"Write", api.Tx{Drop: tuples}} }

// courseOfCalls is files and what is called on a store of them.
type courseOfCalls struct {
	files []api.File
	calls []call
}

func coursesOfCalls() []courseOfCalls {
	whole := inEpoch5(framesOf("7", ann, bob, "end"), framesOf("8\n-"+bob))
	torn := slices.Concat(inEpoch5(framesOf("7", ann, "end"), framesOf("8\n+"+bob)+"torn"), []string{"c6", framesOf("8", "end"), "l6", "x", "", "y", "MANIFEST~", framesOf("6")})
	last := []string{"MANIFEST", framesOf("999999999"), "c999999999", framesOf("7", ann, "end"), "l999999999", framesOf("8\n+" + bob)[:9]}
	changes := []call{toPut(cat, bob), toDrop(bob), toFlush, toDrop(ann), toCheckpoint, toPut(ann), toPut(bob), toFlush, toFlush, toCheckpoint}
	return []courseOfCalls{
		{nil, changes},
		{nil, []call{toFlush, toCheckpoint, toPut(ann), toCheckpoint, toCheckpoint, toDrop(ann), toFlush}},
		{filesOf("c0", framesOf("0", "end"), "z", "", "l0", framesOf("1"), "MANIFEST~", framesOf("0")[:4], "a", "long"), changes[:4]},
		{filesOf(whole...), changes},
		{filesOf(torn...), changes},
		{filesOf(last...), changes},
		{filesOf("MANIFEST", framesOf("5"), "c5", "", "l5", "", "x", "y"), changes},
	}
}

// operations is how many a course takes, if nothing happens.
func (c courseOfCalls) operations(t *testing.T) int {
	return checkCalls(t, c.files, quiet, c.calls...).number
}

func TestOperationsAreCounted(t *testing.T) {
	for i, want := range []int{52, 63, 20, 40, 47, 42, 0} {
		if got := coursesOfCalls()[i].operations(t); got != want {
			t.Errorf("course %d takes %d operations, want %d", i, got, want)
		}
	}
}

var far = math.MaxInt

// manyKeeps: none, fewer than the files are many, as many, more, and more bytes than there are.
var manyKeeps = [][]int{nil, {}, {0}, {1}, {far}, {0, 7}, {far, 0}, {0, 5, 30}, {20, 0, 3}, {9, 8, 7, 6, 5}, {0, 0, 0, far}, {3, 1, far, 0, 2, far}}

func TestPowerLostAheadOfEachOperation(t *testing.T) {
	for _, c := range coursesOfCalls() {
		for number := range c.operations(t) + 2 {
			for _, dirs := range []int{0, 1, 2, 3, 4, far} {
				for _, keeps := range manyKeeps {
					like := checkCalls(t, c.files, crash(number, dirs, keeps...), c.calls...)
					checkCalls(t, like.files(), quiet)
				}
			}
		}
	}
}

// Of what was left, a store is opened, and power is lost again, ahead of each operation that this takes; and so on.
func TestPowerLostAgainAndAgain(t *testing.T) {
	random := rand.New(rand.NewSource(41))
	for _, c := range coursesOfCalls()[:6] {
		for number := range c.operations(t) {
			like := checkCalls(t, c.files, randomCrash(random, number), c.calls...)
			for again := 0; ; again++ {
				next := checkCalls(t, like.files(), randomCrash(random, again), toPut(ann))
				if next.mute == api.OK {
					break
				}
				third := checkCalls(t, next.files(), randomCrash(random, random.Intn(14)))
				checkCalls(t, third.files(), quiet, toPut(ann), toCheckpoint)
			}
		}
	}
}

func randomCrash(random *rand.Rand, number int) api.Options {
	return crash(number, random.Intn(6), manyKeeps[random.Intn(len(manyKeeps))]...)
}

func TestPowerLostInANewStore(t *testing.T) {
	base := framesOf("0", "end")
	for _, c := range []struct {
		o    api.Options
		want []string
	}{
		{crash(0, far, far), nil},
		{crash(1, 0, far), nil},
		{crash(1, 1, far), []string{"c0", ""}},
		{crash(2, 1), []string{"c0", ""}},
		{crash(2, 1, 6), []string{"c0", base[:6]}},
		{crash(2, 1, far), []string{"c0", framesOf("0")}},
		{crash(3, far, 8), []string{"c0", base[:8]}},
		{crash(4, 1), []string{"c0", base}},
		{crash(4, 0, far), nil},
		{crash(5, 1, far), []string{"c0", base}},
		{crash(6, 2), []string{"c0", base, "l0", ""}},
		{crash(7, 0), []string{"c0", base, "l0", ""}},
		{crash(8, 1, far), []string{"MANIFEST~", "", "c0", base, "l0", ""}},
		{crash(9, 1, 2, 9), []string{"MANIFEST~", framesOf("0")[:2], "c0", base, "l0", ""}},
		{crash(9, 0, far), []string{"c0", base, "l0", ""}},
		{crash(10, 2), []string{"MANIFEST~", framesOf("0"), "c0", base, "l0", ""}},
		{crash(11, 0), []string{"c0", base, "l0", ""}},
		{crash(11, 1), []string{"MANIFEST~", framesOf("0"), "c0", base, "l0", ""}},
		{crash(11, 2), []string{"MANIFEST", framesOf("0"), "c0", base, "l0", ""}},
		{crash(11, 3), []string{"MANIFEST", framesOf("0"), "c0", base, "l0", ""}},
	} {
		s, e := Open(schemaA, nil, c.o)
		if s == nil || e != api.ErrLost {
			t.Errorf("P14: Open with %+v = %v, %d", c.o, s, e)
			continue
		}
		checkFiles(t, s, c.want...)
		checkLog(t, openedOf(t, schemaA, s.Files()))
	}
	s, e := Open(schemaA, nil, crash(12, 0))
	if e != api.OK {
		t.Fatalf("P14: power lost behind the twelve operations: %d", e)
	}
	checkLog(t, s)
}

// withAnn: revision 7, ann in the checkpoint, and a log.
func withAnn(log string) []string { return inEpoch5(framesOf("7", ann, "end"), log) }

// Power that would be lost ahead of an operation that the store never comes to is not lost.
func TestPowerIsLostInOperationsAlone(t *testing.T) {
	s, e := Open(schemaA, filesOf(withAnn("")...), crash(0, 0))
	if e != api.OK {
		t.Fatalf("P14: Open without an operation: %d", e)
	}
	flush(t, s)
	checkWrite(t, s, api.Tx{Put: []string{bob}}, 8, api.OK)
	checkRead(t, s, "", ann, bob)
	checkRevision(t, s, 8, 7)
	checkIn(t, s, true, bob)
	if e := s.Flush(); e != api.ErrLost {
		t.Errorf("P14: Flush = %d", e)
	}
	checkFiles(t, s, withAnn("")...)
	for _, o := range []api.Options{crash(0, 0), {Crash: 0, Full: 0}} {
		if s, e := Open(schemaA, filesOf("MANIFEST", "", "x", "y"), o); s == nil || e != api.ErrCorrupt {
			t.Errorf("P12: corrupt files, no operation, %+v: %v, %d", o, s, e)
		}
	}
}

func TestPowerLostInFlush(t *testing.T) {
	logged := framesOf("8", "9\n+"+bob)
	first := len(framesOf("8"))
	for _, c := range []struct {
		o    api.Options
		kept int
		want int
	}{
		{crash(0, far, far), 0, 7}, {crash(1, far), 0, 7}, {crash(1, 0, 0, 0, first-1), first - 1, 7}, {crash(1, 0, 0, 0, first), first, 8}, {crash(1, 0, 0, 0, len(logged)-1), len(logged) - 1, 8}, {crash(1, 0, 0, 0, len(logged)), len(logged), 9}, {crash(1, 0, far), len(logged), 9}, {crash(1, 0, far, 0), len(logged), 9}, {crash(1, 0, 0, far), 0, 7},
	} {
		s, _ := Open(schemaA, filesOf(withAnn("")...), c.o)
		checkWrite(t, s, api.Tx{}, 8, api.OK)
		checkWrite(t, s, api.Tx{Put: []string{bob}}, 9, api.OK)
		if e := s.Flush(); e != api.ErrLost {
			t.Errorf("P14: Flush with %+v = %d", c.o, e)
		}
		checkFiles(t, s, withAnn(logged[:c.kept])...)
		checkRevision(t, openedOf(t, schemaA, s.Files()), c.want, c.want)
	}
}

func TestKeepsHandedInAreNotKept(t *testing.T) {
	keeps := []int{4, 4, 4, 99}
	s, e := Open(schemaA, filesOf(withAnn("")...), api.Options{Crash: 1, Full: api.Never, Keeps: keeps[:3]})
	if e != api.OK {
		t.Fatalf("P6: Open = %d", e)
	}
	putIn(t, s, bob)
	for i := range keeps {
		keeps[i] = i
	}
	if e := s.Flush(); e != api.ErrLost || fmt.Sprint(keeps) != "[0 1 2 3]" {
		t.Errorf("P2: Flush = %d, and the list is %d", e, keeps)
	}
	checkFiles(t, s, withAnn(framesOf("8\n+" + bob)[:4])...)
}
