// Package frame: payloads as they stand in a file, with a length and a check around them.
package frame

import "strings"

// maxPayload is the greatest length that the two bytes ahead of a payload can tell.
const maxPayload = 1<<16 - 1

const (
	headBytes  = 2
	checkBytes = 4
	polynomial = 0x82f63b78
)

// Make is the frame of a payload; false if it is longer than a frame can hold.
func Make(payload string) (string, bool) {
	if len(payload) > maxPayload {
		return "", false
	}
	framed := highFirst(uint32(len(payload)), headBytes) + payload
	return framed + highFirst(check(framed), checkBytes), true
}

// ReadAll has the payloads of the frames with which the data begin, and how many bytes these have. What is behind them is cut short or damaged, so no frame can be told in it.
func ReadAll(data string) ([]string, int) {
	var payloads []string
	read := 0
	for {
		payload, ok := first(data[read:])
		if !ok {
			return payloads, read
		}
		// A copy, so that a short payload does not hold on to all the data.
		payloads = append(payloads, strings.Clone(payload))
		read += headBytes + len(payload) + checkBytes
	}
}

// first is the payload of the frame with which the data begin; false if that is no whole one with a right check.
func first(data string) (string, bool) {
	if len(data) < headBytes {
		return "", false
	}
	end := headBytes + int(fromHighFirst(data[:headBytes]))
	if len(data) < end+checkBytes {
		return "", false
	}
	right := check(data[:end]) == fromHighFirst(data[end:end+checkBytes])
	return data[headBytes:end], right
}

// highFirst is a number as so many bytes, the high one first.
func highFirst(number uint32, length int) string {
	text := make([]byte, length)
	for i := range text {
		text[i] = byte(number >> (8 * (length - 1 - i)))
	}
	return string(text)
}

// fromHighFirst is the number that bytes tell, the high one first.
func fromHighFirst(text string) uint32 {
	number := uint32(0)
	for i := range len(text) {
		number = number<<8 | uint32(text[i])
	}
	return number
}

// check is the CRC-32C, bit by bit as it is defined: files are small, so a table for whole bytes would not pay.
func check(text string) uint32 {
	sum := ^uint32(0)
	for i := range len(text) {
		sum ^= uint32(text[i])
		for range 8 {
			fell := sum & 1
			sum >>= 1
			if fell == 1 {
				sum ^= polynomial
			}
		}
	}
	return ^sum
}
