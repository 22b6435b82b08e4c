package records

import (
	"runtime"
	"slices"
	"strings"
	"testing"

	"warden/frame"
)

func TestNumbers(t *testing.T) {
	for text, want := range map[string]int{"0": 0, "1": 1, "9": 9, "10": 10, "99": 99, "100": 100, "123456789": 123456789, "999999998": 999999998, "999999999": 999999999} {
		if n, ok := readNumber(text); n != want || !ok {
			t.Errorf("P12: the number %q: %d, %v", text, n, ok)
		}
	}
	for _, text := range []string{
		"", " ", "00", "01", "007", "0000000001", "-0", "-1", "+0", "+1", " 1", "1 ", "1\n", "\n1", "1\x00", "1.0", "1e3", "0x1", "0b1", "1_0", "a", "end", "١", "1000000000", "4294967296", "9223372036854775807", "9223372036854775808", "18446744073709551616", strings.Repeat("9", 60000), strings.Repeat("0", 60000),
	} {
		if n, ok := readNumber(text); n != 0 || ok {
			t.Errorf("P12: the number %.40q: %d, %v", text, n, ok)
		}
	}
}

func TestCheckpointIsTheSameHoweverItIsTaken(t *testing.T) {
	tuples := []string{"b", "a", "", "end"}
	want := []string{"7", "b", "a", "", "end", "end"}
	for pause := range 20 {
		var got []string
		for framed := range MakeCheckpoint(7, tuples) {
			payloads, length := frame.ReadAll(framed)
			if len(payloads) != 1 || length != len(framed) {
				t.Fatalf("P11: %q is not one frame", framed)
			}
			got = append(got, payloads...)
			for range pause {
				runtime.Gosched()
			}
		}
		if !slices.Equal(got, want) {
			t.Errorf("P11: the frames of a checkpoint are %q, want %q", got, want)
		}
	}
}
