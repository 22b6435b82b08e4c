// Package records: what stands in the files of a store, and what these files are called.
package records

import (
	"strconv"
	"strings"

	"warden/api"
	"warden/frame"
)

// Manifest is the file that tells which epoch counts, Draft the one that becomes it: written whole under another name, it is never seen half written.
const (
	Manifest = "MANIFEST"
	Draft    = "MANIFEST~"
)

// The marks of a transaction's lines, and the last payload of a checkpoint.
const (
	putMark  = "+"
	dropMark = "-"
	end      = "end"
)

// Transaction is what a log tells of one.
type Transaction struct {
	Revision  int // the one that it has made
	Put, Drop []string
}

// CheckpointName is what the checkpoint of an epoch is called.
func CheckpointName(epoch int) string { return "c" + strconv.Itoa(epoch) }

// LogName is what the log of an epoch is called.
func LogName(epoch int) string { return "l" + strconv.Itoa(epoch) }

// MakeManifest has the bytes of the manifest that names an epoch.
func MakeManifest(epoch int) string { return framed(strconv.Itoa(epoch)) }

// ReadManifest is the epoch that a manifest names; false if it is no right one.
func ReadManifest(data string) (int, bool) {
	payloads, ok := readWhole(data)
	if !ok || len(payloads) != 1 {
		return 0, false
	}
	return readNumber(payloads[0])
}

// MakeCheckpoint hands over the frames of a checkpoint, one behind the other, while they are being made. Whoever takes them must take them all: only then has the one that makes them ended.
func MakeCheckpoint(revision int, tuples []string) <-chan string {
	frames := make(chan string)
	go func() {
		defer close(frames)
		frames <- framed(strconv.Itoa(revision))
		for _, tuple := range tuples {
			frames <- framed(tuple)
		}
		frames <- framed(end)
	}()
	return frames
}

// ReadCheckpoint has the revision and the payloads that should be tuples; false if the frames, the revision or the end are not right.
func ReadCheckpoint(data string) (int, []string, bool) {
	payloads, ok := readWhole(data)
	last := len(payloads) - 1
	if !ok || last < 1 || payloads[last] != end {
		return 0, nil, false
	}
	revision, ok := readNumber(payloads[0])
	return revision, payloads[1:last], ok
}

// MakeTransaction is the frame of a transaction in a log.
func MakeTransaction(t Transaction) string {
	var payload strings.Builder
	payload.WriteString(strconv.Itoa(t.Revision))
	for _, tuple := range t.Put {
		payload.WriteString("\n" + putMark + tuple)
	}
	for _, tuple := range t.Drop {
		payload.WriteString("\n" + dropMark + tuple)
	}
	return framed(payload.String())
}

// ReadLog has the transactions of a log, and how many bytes their frames have; false if a frame is none.
func ReadLog(data string) ([]Transaction, int, bool) {
	payloads, length := frame.ReadAll(data)
	var transactions []Transaction
	for _, payload := range payloads {
		t, ok := readTransaction(payload)
		if !ok {
			return nil, 0, false
		}
		transactions = append(transactions, t)
	}
	return transactions, length, true
}

func readTransaction(payload string) (Transaction, bool) {
	parts := strings.Split(payload, "\n")
	revision, ok := readNumber(parts[0])
	t := Transaction{Revision: revision}
	for _, line := range parts[1:] {
		put, isPut := strings.CutPrefix(line, putMark)
		drop, isDrop := strings.CutPrefix(line, dropMark)
		switch {
		case isPut && len(t.Drop) == 0:
			t.Put = append(t.Put, put)
		case isDrop:
			t.Drop = append(t.Drop, drop)
		default:
			return Transaction{}, false
		}
	}
	return t, ok
}

// readWhole has the payloads of data that are frames and nothing else.
func readWhole(data string) ([]string, bool) {
	payloads, length := frame.ReadAll(data)
	return payloads, length == len(data)
}

// readNumber reads an epoch or a revision. There is one way to write each, so what is not written back as it was read is none.
func readNumber(text string) (int, bool) {
	number, err := strconv.Atoi(text)
	if err != nil || strconv.Itoa(number) != text || number < 0 || number > api.MaxNumber {
		return 0, false
	}
	return number, true
}

// framed is the frame of a payload that a store makes: far shorter than a frame's may be, since tuples are short and few in a transaction.
func framed(payload string) string {
	whole, _ := frame.Make(payload)
	return whole
}
