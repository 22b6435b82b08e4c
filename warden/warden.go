// Package warden: who may do what, on a disk that may lose power: see DOC.md.
package warden

import (
	"warden/api"
	"warden/frame"
	"warden/schemas"
)

// Schema looks a schema over (P3).
func Schema(text string) (int, api.Errno) {
	_, number, e := schemas.Parse(text)
	return number, e
}

// Fits tells whether a text is a tuple that fits a schema (P4).
func Fits(schema string, tuple string) api.Errno {
	known, _, e := schemas.Parse(schema)
	if e == api.OK {
		_, e = known.ReadTuple(tuple)
	}
	return e
}

// Frame is a payload as it stands in a file (P5).
func Frame(payload string) (string, api.Errno) {
	framed, ok := frame.Make(payload)
	if !ok {
		return "", api.ErrLong
	}
	return framed, api.OK
}

// Frames reads the frames with which a file begins (P5).
func Frames(data string) ([]string, int) { return frame.ReadAll(data) }
