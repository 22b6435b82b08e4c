package warden

import (
	"fmt"
	"slices"
	"strings"
	"testing"

	"warden/api"
)

// checkCorrupt: these files say what can't be; a store of them tells of them, and of nothing else.
func checkCorrupt(t *testing.T, why string, l ...string) {
	t.Helper()
	files := filesOf(append(l, "x", "y", "MANIFEST~", framesOf("6"))...)
	s, e := Open(schemaA, files, quiet)
	if s == nil || e != api.ErrCorrupt {
		t.Errorf("P12: %s: Open(.., %.300q) = %v, %d, want %d", why, files, s, e, api.ErrCorrupt)
		return
	}
	slices.SortFunc(files, func(a, b api.File) int { return strings.Compare(a.Name, b.Name) })
	for range 2 {
		if got := s.Files(); !slices.Equal(got, files) {
			t.Errorf("P14: %s: Files() = %.300q, want %.300q", why, got, files)
		}
		number, w := s.Write(api.Tx{Put: []string{ann}})
		tuples, r := s.Read("")
		in, c := s.Check(bad)
		revision, safe, v := s.Revision()
		got := fmt.Sprint(number, w, len(tuples), r, in, c, revision, safe, v, s.Flush(), s.Checkpoint())
		if want := "0 10 0 10 false 10 0 0 10 10 10"; got != want {
			t.Errorf("P14: %s: the store answers %s, want %s", why, got, want)
		}
	}
}

// inEpoch5: a right manifest, a checkpoint and a log.
func inEpoch5(checkpoint, log string) []string {
	return []string{"MANIFEST", framesOf("5"), "c5", checkpoint, "l5", log}
}

// checkRight: of these files there is a store with this revision and these tuples, and it is the same one if it is opened again.
func checkRight(t *testing.T, l []string, revision int, tuples ...string) {
	t.Helper()
	s := opened(t, schemaA, l...)
	for range 2 {
		checkRevision(t, s, revision, revision)
		checkRead(t, s, "", tuples...)
		s = openedOf(t, schemaA, s.Files())
	}
}

func TestOpenWithoutManifest(t *testing.T) {
	right := inEpoch5(framesOf("7", ann, "end"), framesOf("8"))[2:]
	for _, l := range [][]string{
		nil, right, {"x", "y"}, {"", ""}, {"MANIFEST~", framesOf("5"), "c5", framesOf("7", "end"), "l5", ""}, {"MANIFEST ", framesOf("5")}, {"manifest", framesOf("0")}, {"c0", "x", "l0", "y", "z", "z", "MANIFEST~", "torn"}, {"c0", framesOf("3", ann, "end"), "l0", framesOf("4")},
	} {
		s := opened(t, schemaA, l...)
		checkLog(t, s)
		checkRevision(t, s, 0, 0)
		checkRead(t, s, "")
		putIn(t, s, bob)
		flush(t, s)
		checkLog(t, s, "1\n+"+bob)
	}
}

func TestOpenTakesOverWhatIsThere(t *testing.T) {
	base := framesOf("7", ann, bob, "end")
	for _, c := range []struct {
		log      []string
		revision int
		tuples   []string
	}{
		{nil, 7, []string{ann, bob}},
		{[]string{"8"}, 8, []string{ann, bob}},
		{[]string{"8", "9", "10", "11"}, 11, []string{ann, bob}},
		{[]string{"8\n-" + ann, "9\n-" + ann}, 9, []string{bob}},
		{[]string{"8\n+" + cat + "\n+" + ann + "\n-" + bob}, 8, []string{ann, cat}},
		// In another order than that in which a store tells them.
		{[]string{"8\n+" + cat + "\n+" + bob + "\n+" + ann, "9\n-" + cat + "\n-" + ann}, 9, []string{bob}},
		{[]string{"8\n-" + ann, "9\n+" + ann}, 9, []string{ann, bob}},
		{[]string{"8\n-" + strings.Join(owners(16), "\n-")}, 8, []string{ann, bob}},
		{[]string{"8\n+" + strings.Join(owners(8), "\n+") + "\n-" + strings.Join(owners(16)[8:], "\n-")}, 8, append(owners(8), ann, bob)},
	} {
		l := inEpoch5(base, framesOf(c.log...))
		checkRight(t, l, c.revision, c.tuples...)
		checkFiles(t, opened(t, schemaA, l...), l...)
	}
	for _, revision := range []int{0, 1, 9, 10, 999999999} {
		checkRight(t, inEpoch5(framesOf(fmt.Sprint(revision), "end"), ""), revision)
	}
	for _, epoch := range []string{"0", "9", "10", "123456789", "999999999"} {
		checkRight(t, []string{"l" + epoch, framesOf("1"), "c" + epoch, framesOf("0", "end"), "MANIFEST", framesOf(epoch)}, 1)
	}
}

func TestOpenAndGoOn(t *testing.T) {
	s := opened(t, schemaA, inEpoch5(framesOf("7", ann, "end"), framesOf("8\n+"+bob)+"torn")...)
	checkWrite(t, s, api.Tx{Must: []string{ann, bob}, Put: []string{cat}, Drop: []string{ann}}, 9, api.OK)
	checkRevision(t, s, 9, 8)
	flush(t, s)
	checkFiles(t, s, inEpoch5(framesOf("7", ann, "end"), framesOf("8\n+"+bob, "9\n+"+cat+"\n-"+ann))...)
	checkIn(t, s, true, "page:1#viewer@user:bob", "page:1#viewer@user:cat")
	checkIn(t, s, false, "page:1#viewer@user:ann")
	checkpoint(t, s)
	checkFiles(t, s, "MANIFEST", framesOf("6"), "c6", framesOf("9", bob, cat, "end"), "l6", "")
}

func TestOpenSweeps(t *testing.T) {
	right := inEpoch5(framesOf("7", ann, "end"), framesOf("8"))
	for _, more := range [][]string{
		{"MANIFEST~", framesOf("6")}, {"c6", "", "l6", "x"}, {"c4", framesOf("6", "end"), "l4", framesOf("7")}, {"c05", framesOf("7", "end"), "l05", ""}, {"", ""}, {"A", "", "M", "", "N", "", "c", "", "c55", "", "d", "", "l", "", "l50", "", "m", "", "\xff", ""}, {"C5", "", "L5", ""},
	} {
		s := opened(t, schemaA, append(more, right...)...)
		checkFiles(t, s, right...)
		checkRevision(t, s, 8, 8)
		checkRead(t, s, "", ann)
	}
}

func TestOpenSweepsManyFiles(t *testing.T) {
	right := inEpoch5(framesOf("7", ann, "end"), framesOf("8"))
	files := filesOf(right...)
	for i := range 100000 {
		files = append(files, api.File{Name: fmt.Sprintf("%c:%d", 'A'+i%60, i)})
	}
	checkFiles(t, openedOf(t, schemaA, files), right...)
}

func TestOpenLogCutShort(t *testing.T) {
	first, second, third := framesOf("8\n+"+bob), framesOf("9\n-"+ann+"\n-"+cat), framesOf("10")
	log := first + second + third
	for length := range len(log) + 1 {
		whole, revision, tuples := "", 7, []string{ann}
		if length >= len(first) {
			whole, revision, tuples = first, 8, []string{ann, bob}
		}
		if length >= len(first+second) {
			whole, revision, tuples = first+second, 9, []string{bob}
		}
		if length == len(log) {
			whole, revision = log, 10
		}
		l := inEpoch5(framesOf("7", ann, "end"), log[:length])
		checkRight(t, l, revision, tuples...)
		checkFiles(t, opened(t, schemaA, l...), inEpoch5(framesOf("7", ann, "end"), whole)...)
	}
}

func TestOpenLogWithAWrongCheck(t *testing.T) {
	first, second := framesOf("8\n+"+bob), framesOf("9\n-"+ann)
	for place := range len(second) {
		for _, turned := range []byte{1, 0x80, 0xff} {
			torn := []byte(first + second + first)
			torn[len(first)+place] ^= turned
			l := inEpoch5(framesOf("7", ann, "end"), string(torn))
			checkRight(t, l, 8, ann, bob)
			checkFiles(t, opened(t, schemaA, l...), inEpoch5(framesOf("7", ann, "end"), first)...)
		}
	}
	// What stands behind a torn frame is not read, be it right or not.
	checkRight(t, inEpoch5(framesOf("7", ann, "end"), "torn"+framesOf("8", "8", "bad")), 7, ann)
}

func TestCorruptManifest(t *testing.T) {
	right := inEpoch5(framesOf("7", ann, "end"), "")[2:]
	whole := framesOf("5")
	for length := range len(whole) {
		checkCorrupt(t, "a manifest cut short", append(right, "MANIFEST", whole[:length])...)
		changed := []byte(whole)
		changed[length] ^= 1
		checkCorrupt(t, "a byte of the manifest turned", append(right, "MANIFEST", string(changed))...)
	}
	for _, manifest := range []string{
		whole + "x", whole + whole, whole + "\n", whole + framesOf(""), framesOf("") + whole, framesOf("05"), framesOf("5 "), framesOf("+5"), framesOf("-5"), framesOf("5\n"), framesOf(""), framesOf("five"), framesOf("6"), framesOf("50"), framesOf("1000000005"), framesOf("4294967301"), framesOf("18446744073709551621"), "5",
	} {
		checkCorrupt(t, "a manifest", append(right, "MANIFEST", manifest)...)
	}
	// A number that may not be is none, even where there are files of this name.
	for _, number := range []string{"05", "00", "-1", "+5", "1000000000", "", "x"} {
		checkCorrupt(t, "an epoch", "MANIFEST", framesOf(number), "c"+number, framesOf("7", "end"), "l"+number, "", "c5", framesOf("7", "end"), "l5", "")
	}
}

func TestCorruptForWantOfFiles(t *testing.T) {
	right := inEpoch5(framesOf("7", "end"), "")
	checkCorrupt(t, "no checkpoint", "MANIFEST", right[1], "l5", "")
	checkCorrupt(t, "no log", "MANIFEST", right[1], "c5", right[3])
	checkCorrupt(t, "neither", "MANIFEST", right[1])
	checkCorrupt(t, "those of others", "MANIFEST", right[1], "c05", right[3], "l05", "", "c6", right[3], "l6", "", "C5", right[3], "L5", "")
}

func TestCorruptCheckpoint(t *testing.T) {
	whole := framesOf("7", ann, bob, "end")
	for length := range len(whole) {
		checkCorrupt(t, "a checkpoint cut short", inEpoch5(whole[:length], "")...)
		changed := []byte(whole)
		changed[length] ^= 1
		checkCorrupt(t, "a byte of the checkpoint turned", inEpoch5(string(changed), "")...)
	}
	for _, l := range [][]string{
		{"7"}, {"end"}, {"7", ann}, {ann, "end"}, {"end", "7"}, {"7", "end", "end"}, {"7", "end", ann}, {"7", "end", ann, "end"}, {"7", ann, "end", bob, "end"}, {"7", "8", "end"}, {"7", "end "}, {"7", "END"}, {"7", ""}, {"7", "", "end"},
		{"07", "end"}, {"", "end"}, {"-1", "end"}, {"+7", "end"}, {"7 ", "end"}, {"1000000000", "end"}, {"seven", "end"},
		{"7", bob, ann, "end"}, {"7", ann, ann, "end"}, {"7", ann, cat, bob, "end"}, {"7", ann, bob, bob, cat, "end"},
		{"7", bad, "end"}, {"7", unfit, "end"}, {"7", "+" + ann, "end"}, {"7", ann + "\n" + bob, "end"}, {"7", ann, unfit, "end"}, {"7\n" + ann, "end"},
	} {
		checkCorrupt(t, "a checkpoint", inEpoch5(framesOf(l...), "")...)
	}
	for _, behind := range []string{"x", "\x00", framesOf(""), framesOf("end"), whole} {
		checkCorrupt(t, "bytes behind the end", inEpoch5(whole+behind, "")...)
	}
}

func TestCorruptLog(t *testing.T) {
	base := framesOf("7", ann, bob, "end")
	for _, l := range [][]string{
		{"7"}, {"9"}, {"0"}, {"8", "8"}, {"8", "10"}, {"8", "9", "8"}, {"08"}, {"+8"}, {"8 "}, {""}, {"x"}, {"\n"}, {"8", ""},
		{"8\n"}, {"8\n\n+" + cat}, {"8\n+" + cat + "\n"}, {"8\n" + cat}, {"8\n*" + cat}, {"8+" + cat}, {"+" + cat}, {"\n+" + cat}, {"8\r\n+" + cat}, {"8\n+"}, {"8\n-"}, {"8\n+ " + cat}, {"8\n++" + cat}, {"8\n+-" + cat}, {"8\n-+" + cat},
		{"8\n-" + ann + "\n+" + cat}, {"8\n+" + cat + "\n-" + ann + "\n+" + ann},
		{"8\n+" + bad}, {"8\n+" + unfit}, {"8\n-" + bad}, {"8\n-" + unfit}, {"8\n+" + cat + "\n-" + unfit}, {"8", "9\n+" + bad},
		{"8\n+" + cat + "\n+" + cat}, {"8\n-" + ann + "\n-" + ann}, {"8\n+" + ann + "\n-" + ann}, {"8\n+" + cat + "\n+" + bob + "\n-" + ann + "\n-" + cat},
	} {
		checkCorrupt(t, "a log", inEpoch5(base, framesOf(l...))...)
		checkCorrupt(t, "a log that is torn too", inEpoch5(base, framesOf(l...)+"torn")...)
	}
}

func TestCorruptByOneTupleTooMany(t *testing.T) {
	l := owners(201)
	most := framesOf(slices.Concat([]string{"7"}, l[:200], []string{"end"})...)
	checkRight(t, inEpoch5(most, ""), 7, l[:200]...)
	checkCorrupt(t, "201 tuples", inEpoch5(framesOf(slices.Concat([]string{"7"}, l, []string{"end"})...), "")...)
	checkRight(t, inEpoch5(most, framesOf("8\n+"+l[0])), 8, l[:200]...)
	checkRight(t, inEpoch5(most, framesOf("8\n+"+l[200]+"\n-"+l[0])), 8, l[1:]...)
	checkCorrupt(t, "201 tuples by the log", inEpoch5(most, framesOf("8\n+"+l[200]))...)
	checkCorrupt(t, "201 tuples for a while", inEpoch5(most, framesOf("8\n+"+l[200], "9\n-"+l[200]))...)
	checkCorrupt(t, "201 tuples later on", inEpoch5(most, framesOf("8\n-"+l[0], "9\n+"+l[0], "10\n+"+l[200]))...)
	none := framesOf("7", "end")
	checkRight(t, inEpoch5(none, framesOf("8\n+"+strings.Join(l[:16], "\n+"))), 8, l[:16]...)
	checkCorrupt(t, "17 put", inEpoch5(none, framesOf("8\n+"+strings.Join(l[:17], "\n+")))...)
	checkCorrupt(t, "17 dropped", inEpoch5(none, framesOf("8\n-"+strings.Join(l[:17], "\n-")))...)
	checkCorrupt(t, "17 of both", inEpoch5(none, framesOf("8\n+"+strings.Join(l[:9], "\n+")+"\n-"+strings.Join(l[9:17], "\n-")))...)
	checkCorrupt(t, "16, one of them twice", inEpoch5(none, framesOf("8\n+"+strings.Join(l[:15], "\n+")+"\n+"+l[3]))...)
	checkCorrupt(t, "17, one of them twice", inEpoch5(none, framesOf("8\n+"+strings.Join(l[:16], "\n+")+"\n-"+l[3]))...)
}

func TestCorruptBehindTheLastRevision(t *testing.T) {
	checkRight(t, inEpoch5(framesOf("999999998", "end"), framesOf("999999999")), 999999999)
	checkCorrupt(t, "behind the last revision", inEpoch5(framesOf("999999999", "end"), framesOf("1000000000"))...)
	checkCorrupt(t, "the last revision twice", inEpoch5(framesOf("999999999", "end"), framesOf("999999999"))...)
	checkCorrupt(t, "from the last revision to none", inEpoch5(framesOf("999999999", "end"), framesOf("0"))...)
	checkCorrupt(t, "over the last revision", inEpoch5(framesOf("999999998", "end"), framesOf("999999999", "1000000000"))...)
}

func TestCorruptByAnotherSchema(t *testing.T) {
	s := storeOf(t, schemaA, "page:1#owner@user:ann", "page:1#viewer@team:red#member")
	flush(t, s)
	logged := s.Files()
	checkpoint(t, s)
	for _, files := range [][]api.File{logged, s.Files()} {
		for schema, want := range map[string]api.Errno{
			schemaA:                     api.OK,
			schemaA + "\nrel more self": api.OK,
			strings.Replace(schemaA, "set member", "rel member", 1): api.ErrCorrupt,
			"type page\nrel owner self":                             api.ErrCorrupt,
			"":                                                      api.ErrCorrupt,
		} {
			if u, e := Open(schema, files, quiet); u == nil || e != want {
				t.Errorf("P12: Open(%q, %q) = %v, %d, want %d", schema, files, u, e, want)
			}
		}
	}
}

func TestOpenErrorsInTheirOrder(t *testing.T) {
	corrupt := filesOf("MANIFEST", "")
	twice := append(corrupt, corrupt...)
	low := api.Options{Crash: -2, Full: api.Never}
	if s, e := Open("bad", twice, low); s != nil || e != api.ErrLine {
		t.Errorf("P6: all at once: %v, %d", s, e)
	}
	if s, e := Open("bad", corrupt, quiet); s != nil || e != api.ErrLine {
		t.Errorf("P6: a wrong schema, corrupt files: %v, %d", s, e)
	}
	if s, e := Open(schemaA, twice, low); s != nil || e != api.ErrDisk {
		t.Errorf("P6: corrupt files of one name, an option: %v, %d", s, e)
	}
	if s, e := Open(schemaA, corrupt, low); s != nil || e != api.ErrOption {
		t.Errorf("P6: corrupt files, an option: %v, %d", s, e)
	}
	if s, e := Open(schemaA, corrupt, quiet); s == nil || e != api.ErrCorrupt {
		t.Errorf("P12: corrupt files: %v, %d", s, e)
	}
}
