package warden

import (
	"fmt"
	"runtime"
	"slices"
	"testing"

	"warden/api"
)

func TestFilesHandedInStayAsTheyAre(t *testing.T) {
	for _, c := range [][]api.File{
		filesOf("z", "1", "l0", "2", "a", "3"),
		filesOf("z", "1", "l0", framesOf("1")+"torn", "c0", framesOf("0", ann, "end"), "MANIFEST", framesOf("0"), "a", ""),
		filesOf("z", "1", "MANIFEST", "", "a", "2"),
	} {
		files := append(slices.Clone(c), filesOf("behind", "it")...)
		s, _ := Open(schemaA, files[:len(c)], quiet)
		s.Write(api.Tx{Put: []string{bob}})
		s.Checkpoint()
		if !slices.Equal(files, append(slices.Clone(c), filesOf("behind", "it")...)) {
			t.Errorf("P2: the list that Open was handed is %q, was %q", files, c)
		}
	}
}

func TestFilesHandedInAreNotKept(t *testing.T) {
	texts := [][]byte{[]byte("MANIFEST"), []byte(framesOf("5")), []byte("c5"), []byte(framesOf("7", ann, "end")), []byte("l5"), []byte(framesOf("8\n+" + bob))}
	var l []string
	for _, b := range texts {
		l = append(l, ofBytes(b))
	}
	files := filesOf(l...)
	s := openedOf(t, schemaA, files)
	for i := range files {
		files[i] = api.File{Name: "x", Data: "y"}
	}
	for _, b := range texts {
		for i := range b {
			b[i] = 'x'
		}
	}
	checkRead(t, s, "", ann, bob)
	checkFiles(t, s, "MANIFEST", framesOf("5"), "c5", framesOf("7", ann, "end"), "l5", framesOf("8\n+"+bob))
	checkpoint(t, s)
	checkFiles(t, s, "MANIFEST", framesOf("6"), "c6", framesOf("8", ann, bob, "end"), "l6", "")
}

func TestFilesKeptOfWhatIsCorrupt(t *testing.T) {
	name, data := []byte("MANIFEST"), []byte("data")
	files := filesOf(ofBytes(name), ofBytes(data))
	s, e := Open(schemaA, files, quiet)
	if e != api.ErrCorrupt {
		t.Fatalf("P12: Open: %d", e)
	}
	name[0], data[0], files[0] = 'x', 'x', api.File{}
	checkFiles(t, s, "MANIFEST", "data")
}

func TestFilesListsAreNewMemory(t *testing.T) {
	s := storeOf(t, schemaA, ann, bob)
	flush(t, s)
	want := s.Files()
	other := s.Files()
	checkOwnFiles(t, s)
	putIn(t, s, cat)
	checkpoint(t, s)
	if !slices.Equal(other, want) {
		t.Errorf("P2: a list of Files was changed by later calls: %q", other)
	}
	checkFiles(t, s, "MANIFEST", framesOf("1"), "c1", framesOf("2", ann, bob, cat, "end"), "l1", "")
}

func TestStoresOfTheSameFiles(t *testing.T) {
	first := storeOf(t, schemaA, ann)
	flush(t, first)
	files := first.Files()
	second, third := openedOf(t, schemaA, files), openedOf(t, schemaA, files)
	putIn(t, second, bob)
	flush(t, second)
	checkpoint(t, third)
	checkLog(t, first, "1\n+"+ann)
	checkLog(t, second, "1\n+"+ann, "2\n+"+bob)
	checkFiles(t, third, "MANIFEST", framesOf("1"), "c1", framesOf("1", ann, "end"), "l1", "")
}

// diskCourse is what lies on a disk behind each of some calls.
func diskCourse(t *testing.T) string {
	s := newStore(t, schemaA)
	told := ""
	for i, tuple := range owners(40) {
		putIn(t, s, tuple)
		if i%3 == 0 {
			flush(t, s)
		}
		if i%5 == 0 {
			checkpoint(t, s)
		}
		told += fmt.Sprintf("%q\n", s.Files())
	}
	return told
}

func TestDiskHangsOnTheCallsAlone(t *testing.T) { checkSame(t, diskCourse) }

func TestNothingRunsOnBehindCheckpoint(t *testing.T) {
	s := storeOf(t, schemaA, owners(200)...)
	before := runtime.NumGoroutine()
	for range 200 {
		checkpoint(t, s)
	}
	checkNoMoreRun(t, before)
}

func TestDiskCallsEndAtAllTexts(t *testing.T) {
	for _, text := range anyTexts() {
		for _, files := range [][]api.File{
			filesOf(text, text),
			filesOf("MANIFEST", text, "c0", framesOf("0", "end"), "l0", ""),
			filesOf("MANIFEST", framesOf("0"), "c0", text, "l0", ""),
			filesOf("MANIFEST", framesOf("0"), "c0", framesOf("0", "end"), "l0", text),
			filesOf("MANIFEST", framesOf("0"), "c0", framesOf("0", "end"), "l0", framesOf("1")+text, "", text),
		} {
			s, e := Open(schemaA, files, quiet)
			if s == nil || e != api.OK && e != api.ErrCorrupt {
				t.Errorf("P17: Open(.., %.200q) = %v, %d", files, s, e)
				continue
			}
			_, w := s.Write(api.Tx{Put: []string{ann}})
			if f, c := s.Flush(), s.Checkpoint(); w != e || f != e || c != e {
				t.Errorf("P1: of %.200q: Open %d, Write %d, Flush %d, Checkpoint %d", files, e, w, f, c)
			}
		}
	}
}
