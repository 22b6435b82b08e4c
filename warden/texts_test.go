package warden

import (
	"slices"
	"strings"
)

// schemaA is the document's schema.
const schemaA = `type user
type team
set member self
type page
rel banned self
rel viewer ( self | owner ) - banned
rel owner self`

func lines(l ...string) string { return strings.Join(l, "\n") }

// withViewer is the document's schema with another expression in line 5.
func withViewer(expression string) string {
	return strings.Replace(schemaA, "( self | owner ) - banned", expression, 1)
}

// names: n of them, all different, with a word ahead and a text behind each.
func names(n int, ahead, behind string) []string {
	var l []string
	for i := range n {
		l = append(l, ahead+" "+string(rune('a'+i))+behind)
	}
	return l
}

// changed is a text with a byte or two taken out, put in or turned, as next tells.
func changed(text, bytes string, next func(int) int) string {
	b := []byte(text)
	for range 1 + next(2) {
		place := next(len(b) + 1)
		other := bytes[next(len(bytes))]
		switch {
		case place == len(b) || next(3) == 0:
			b = slices.Insert(b, place, other)
		case next(2) == 0:
			b = slices.Delete(b, place, place+1)
		default:
			b[place] = other
		}
	}
	return string(b)
}
