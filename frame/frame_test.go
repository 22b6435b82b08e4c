package frame

import (
	"hash/crc32"
	"strings"
	"testing"
)

func TestCheck(t *testing.T) {
	if sum := check("123456789"); sum != 0xe3069283 {
		t.Errorf("P5: the check of 123456789 is %x", sum)
	}
	library := crc32.MakeTable(crc32.Castagnoli)
	for n := range 300 {
		text := strings.Repeat("\x00\xffab\x80", n)[:n]
		if sum, want := check(text), crc32.Checksum([]byte(text), library); sum != want {
			t.Errorf("P5: the check of %d bytes is %x, want %x", n, sum, want)
		}
	}
}
