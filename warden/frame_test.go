package warden

import (
	"encoding/binary"
	"hash/crc32"
	"slices"
	"strings"
	"testing"

	"warden/api"
)

// libraryFrame is a frame by the library's own check.
func libraryFrame(payload string) string {
	b := binary.BigEndian.AppendUint16(nil, uint16(len(payload)))
	b = append(b, payload...)
	return string(binary.BigEndian.AppendUint32(b, crc32.Checksum(b, crc32.MakeTable(crc32.Castagnoli))))
}

func checkFrames(t *testing.T, data string, length int, payloads ...string) {
	t.Helper()
	if l, n := Frames(data); n != length || !slices.Equal(l, payloads) {
		t.Errorf("P5: Frames of %d bytes, %.40x ..: %.60q, %d, want %.60q, %d", len(data), data, l, n, payloads, length)
	}
}

func TestFrameOfNoBytes(t *testing.T) {
	if s, e := Frame(""); s != "\x00\x00\xf1\x61\x77\xd2" || e != api.OK {
		t.Errorf("P5: Frame of no bytes: %x, %d", s, e)
	}
}

func TestFrameOfPayloads(t *testing.T) {
	payloads := []string{"a", "\x00", "\xff", "123456789", "page:7#viewer@user:ann", "\n", "é", strings.Repeat("\x00", 255), strings.Repeat("x", 256), strings.Repeat("\xff", 65535)}
	for b := range 256 {
		payloads = append(payloads, string([]byte{byte(b), 'x', byte(b)}))
	}
	for n := range 600 {
		payloads = append(payloads, strings.Repeat("0123456789", n)[:n])
	}
	for _, p := range payloads {
		s, e := Frame(p)
		if s != libraryFrame(p) || e != api.OK {
			t.Errorf("P5: Frame(%.20q) = %.40x, %d, want %.40x", p, s, e, libraryFrame(p))
		}
		checkFrames(t, s, len(s), p)
	}
}

func TestFrameOfTooMuch(t *testing.T) {
	if s, e := Frame(strings.Repeat("x", 65535)); len(s) != 65541 || e != api.OK {
		t.Errorf("P5: Frame of 65535 bytes: %d bytes, %d", len(s), e)
	}
	for _, n := range []int{65536, 65537, 131071, 5000000} {
		if s, e := Frame(strings.Repeat("x", n)); s != "" || e != api.ErrLong {
			t.Errorf("P5: Frame of %d bytes: %d bytes, %d, want none, %d", n, len(s), e, api.ErrLong)
		}
	}
}

func TestFramesCutShort(t *testing.T) {
	payloads := []string{"first", "", "", strings.Repeat("fourth", 50), "5", ""}
	data, ends := "", []int{0}
	for _, p := range payloads {
		data += libraryFrame(p)
		ends = append(ends, len(data))
	}
	for cut := range len(data) + 1 {
		whole := 0
		for whole < len(payloads) && ends[whole+1] <= cut {
			whole++
		}
		checkFrames(t, data[:cut], ends[whole], payloads[:whole]...)
	}
}

func TestFramesWithAWrongBit(t *testing.T) {
	one, two, three := libraryFrame("one"), libraryFrame("two"), libraryFrame("three")
	for i := range two {
		for bit := range 8 {
			bad := two[:i] + string([]byte{two[i] ^ 1<<bit}) + two[i+1:]
			checkFrames(t, one+bad+three, len(one), "one")
			checkFrames(t, bad+three, 0)
		}
	}
	checkFrames(t, one+two+three, len(one+two+three), "one", "two", "three")
}

func TestFramesOfOtherBytes(t *testing.T) {
	one, big := libraryFrame("one"), libraryFrame(strings.Repeat("b", 65535))
	checkFrames(t, "", 0)
	for n := range 12 {
		checkFrames(t, strings.Repeat("\x00", n), 0)
		checkFrames(t, strings.Repeat("\xff", n), 0)
		checkFrames(t, one+strings.Repeat("\x00", n), len(one), "one")
	}
	checkFrames(t, "x"+one, 0)
	checkFrames(t, big+one, len(big+one), strings.Repeat("b", 65535), "one")
	checkFrames(t, one+big[:len(big)-1], len(one), "one")
	checkFrames(t, one+big[1:], len(one), "one")
	// The check holds for the head too, its high byte first.
	swapped := "\x03\x00one" + one[5:]
	checkFrames(t, swapped+strings.Repeat("x", 1000), 0)
	turned := []byte(one)
	slices.Reverse(turned[5:])
	checkFrames(t, string(turned), 0)
}
