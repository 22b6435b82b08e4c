package warden

import (
	"fmt"
	"maps"
	"math/rand"
	"regexp"
	"slices"
	"strings"
	"testing"

	"warden/api"
)

// What stands here reads files in another way than the program does: by patterns, and by maps.

var (
	aNumber      = regexp.MustCompile(`^(0|[1-9][0-9]{0,8})$`)
	aTransaction = regexp.MustCompile(`^(0|[1-9][0-9]{0,8})((?:\n\+[^\n]*)*)((?:\n-[^\n]*)*)$`)
)

// framesByWords has the payloads with which some data begin, and how many bytes their frames have.
func framesByWords(data string) ([]string, int) {
	var payloads []string
	read := 0
	for rest := data; len(rest) >= 6; rest = data[read:] {
		length := int(rest[0])*256 + int(rest[1])
		if len(rest) < length+6 || libraryFrame(rest[2:2+length]) != rest[:length+6] {
			break
		}
		payloads = append(payloads, rest[2:2+length])
		read += length + 6
	}
	return payloads, read
}

// likeFiles is a store by what files say: nil if they say what can't be.
type likeFiles struct {
	revision int
	tuples   map[string]int
	files    map[string]string
}

func storeByWords(files []api.File) *likeFiles {
	on := map[string]string{}
	for _, f := range files {
		on[f.Name] = f.Data
	}
	manifest, found := on["MANIFEST"]
	if !found {
		return &likeFiles{files: map[string]string{"MANIFEST": framesOf("0"), "c0": framesOf("0", "end"), "l0": ""}}
	}
	payloads, length := framesByWords(manifest)
	if len(payloads) != 1 || length != len(manifest) || !aNumber.MatchString(payloads[0]) {
		return nil
	}
	base, log := "c"+payloads[0], "l"+payloads[0]
	_, hasBase := on[base]
	_, hasLog := on[log]
	if !hasBase || !hasLog {
		return nil
	}
	s := &likeFiles{tuples: map[string]int{}}
	if !s.base(on[base]) {
		return nil
	}
	logged, length := framesByWords(on[log])
	for _, payload := range logged {
		if !s.transaction(payload) {
			return nil
		}
	}
	s.files = map[string]string{"MANIFEST": manifest, base: on[base], log: on[log][:length]}
	return s
}

func (s *likeFiles) base(data string) bool {
	payloads, length := framesByWords(data)
	last := len(payloads) - 1
	if length != len(data) || last < 1 || last > 201 || payloads[last] != "end" || !aNumber.MatchString(payloads[0]) {
		return false
	}
	fmt.Sscan(payloads[0], &s.revision)
	for i, text := range payloads[1:last] {
		if fitsByPattern(text) != api.OK || i > 0 && text <= payloads[i] {
			return false
		}
		s.tuples[text] = 1
	}
	return true
}

func (s *likeFiles) transaction(payload string) bool {
	m := aTransaction.FindStringSubmatch(payload)
	if m == nil || m[1] != fmt.Sprint(s.revision+1) {
		return false
	}
	put := strings.Split(m[2], "\n+")[1:]
	drop := strings.Split(m[3], "\n-")[1:]
	s.revision++
	return likeMap(s.tuples, api.Tx{Put: put, Drop: drop}) == api.OK
}

// some of a list, in any order.
func some(random *rand.Rand, l []string) []string {
	mixed := slices.Clone(l)
	random.Shuffle(len(mixed), func(i, j int) { mixed[i], mixed[j] = mixed[j], mixed[i] })
	return mixed[:random.Intn(5)]
}

// randomFiles: mostly those of a store, with something wrong more often than not.
func randomFiles(random *rand.Rand, all []string) []api.File {
	revision := random.Intn(12)
	tuples := some(random, all)
	slices.Sort(tuples)
	base := slices.Concat([]string{fmt.Sprint(revision)}, tuples, []string{"end"})
	var log []string
	for range random.Intn(4) {
		revision++
		l := some(random, all)
		cut := random.Intn(len(l) + 1)
		payload := fmt.Sprint(revision)
		for i, tuple := range l {
			payload += "\n" + map[bool]string{true: "+", false: "-"}[i < cut] + tuple
		}
		log = append(log, payload)
	}
	manifest := []string{randomWord(random, "0", "7", "999999999")}
	files := filesOf("MANIFEST", spoilt(random, manifest), "c"+manifest[0], spoilt(random, base), "l"+manifest[0], spoilt(random, log))
	if random.Intn(12) == 0 {
		files[random.Intn(3)].Name = randomWord(random, "c00", "l1", "MANIFEST~", "x", "")
	}
	for _, name := range []string{"c1", "l07", "MANIFEST~", "", "z"} {
		if random.Intn(6) == 0 && !slices.ContainsFunc(files, func(f api.File) bool { return f.Name == name }) {
			files = append(files, api.File{Name: name, Data: randomWord(random, "", "x", framesOf("0"))})
		}
	}
	random.Shuffle(len(files), func(i, j int) { files[i], files[j] = files[j], files[i] })
	return files
}

// spoilt are the frames of some payloads, now and then with something wrong.
func spoilt(random *rand.Rand, payloads []string) string {
	payloads = slices.Clone(payloads)
	place := random.Intn(max(1, len(payloads)))
	switch kind := random.Intn(24); {
	case len(payloads) == 0:
	case kind == 0:
		payloads[place] = changed(payloads[place], "+-\n0189:#@pu", random.Intn)
	case kind == 1:
		payloads = slices.Delete(payloads, place, place+1)
	case kind == 2:
		payloads = slices.Insert(payloads, place, payloads[random.Intn(len(payloads))])
	case kind == 3:
		other := random.Intn(len(payloads))
		payloads[place], payloads[other] = payloads[other], payloads[place]
	case kind == 4:
		payloads[place] = randomWord(random, "", "end", "1", "10", "01", "1000000000", "2\n+"+ann)
	}
	data := framesOf(payloads...)
	switch random.Intn(12) {
	case 0:
		data = data[:random.Intn(len(data)+1)]
	case 1:
		data += randomWord(random, "x", "torn", "\x00\x00", framesOf("")[:5])
	case 2:
		if random.Intn(3) == 0 {
			data = changed(data, "\x00\x01\xff0", random.Intn)
		}
	}
	return data
}

func TestOpenOfAnyFiles(t *testing.T) {
	random := rand.New(rand.NewSource(31))
	all := randomTuples(random, schemaA, 20)
	seen := map[string]int{}
	for range 10000 {
		files := randomFiles(random, all)
		want := storeByWords(files)
		s, e := Open(schemaA, files, quiet)
		if want == nil {
			seen["corrupt"]++
			if s == nil || e != api.ErrCorrupt {
				t.Fatalf("P12: Open(.., %q) = %v, %d, want %d", files, s, e, api.ErrCorrupt)
			}
			continue
		}
		if s == nil || e != api.OK {
			t.Fatalf("P12: Open(.., %q) = %v, %d, want OK", files, s, e)
		}
		seen["right"]++
		seen[fmt.Sprint("revision ", want.revision)]++
		for range 2 {
			checkRevision(t, s, want.revision, want.revision)
			checkRead(t, s, "", slices.Sorted(maps.Keys(want.tuples))...)
			var l []string
			for _, name := range slices.Sorted(maps.Keys(want.files)) {
				l = append(l, name, want.files[name])
			}
			checkFiles(t, s, l...)
			s = openedOf(t, schemaA, s.Files())
		}
		if t.Failed() {
			t.Fatalf("P17: of the files %q", files)
		}
	}
	if seen["right"] < 2000 || seen["corrupt"] < 2000 || len(seen) < 15 {
		t.Errorf("too little was tried: %v", seen)
	}
}
