package warden

import (
	"math/rand"
	"strings"
	"testing"

	"warden/api"
)

type schemaCase struct {
	text   string
	number int
	e      api.Errno
}

func checkSchemas(t *testing.T, cases []schemaCase) {
	t.Helper()
	for _, c := range cases {
		if n, e := Schema(c.text); n != c.number || e != c.e {
			t.Errorf("P3: Schema(%.200q) = %d, %d, want %d, %d", c.text, n, e, c.number, c.e)
		}
	}
}

func TestSchemaExamples(t *testing.T) {
	checkSchemas(t, []schemaCase{
		{schemaA, 3, api.OK},
		{withViewer("self - viewer"), 7, api.ErrRing},
		{withViewer("self | editor"), 5, api.ErrName},
		{withViewer("self | owner - banned"), 5, api.ErrLine},
		{"rel viewer self - banned", 0, api.ErrLine},
	})
}

func TestSchemaBytes(t *testing.T) {
	full := schemaA + "\n//" + strings.Repeat("x", api.MaxSchema-len(schemaA)-3)
	wide := "//" + strings.Repeat("é", api.MaxSchema/2-1)
	checkSchemas(t, []schemaCase{
		{full, 3, api.OK},
		{full + "x", 0, api.ErrLong},
		{full + "\n", 0, api.ErrLong},
		{strings.Repeat("\n", 2000), 0, api.OK},
		{strings.Repeat("\n", 2001), 0, api.ErrLong},
		{wide, 0, api.OK},
		{wide + "é", 0, api.ErrLong},
		{"bad\n" + full, 0, api.ErrLong},
	})
}

func TestSchemaCounts(t *testing.T) {
	types := names(6, "type", "")
	rels := append([]string{"type t"}, names(6, "rel", " self")...)
	checkSchemas(t, []schemaCase{
		{lines(types...), 6, api.OK},
		{lines(append(types[:6:6], "", "type g")...), 7, api.ErrLong},
		{lines(append(types[:6:6], "type c")...), 6, api.ErrName},
		{lines(append(types[:6:6], "type g h")...), 6, api.ErrLine},
		{lines(rels...), 1, api.OK},
		{lines(append(rels[:7:7], "//", "rel g self")...), 8, api.ErrLong},
		{lines(append(rels[:7:7], "set g self")...), 7, api.ErrLong},
		{lines(append(rels[:7:7], "set c self")...), 7, api.ErrName},
		{lines(append(rels[:7:7], "set g")...), 7, api.ErrLine},
		{lines(append(rels[:7:7], "type u", "rel g self")...), 2, api.OK},
		{lines(lines(rels...), strings.Replace(lines(rels...), "type t", "type u", 1)), 2, api.OK},
	})
}

func TestSchemaLines(t *testing.T) {
	checkSchemas(t, []schemaCase{
		{"", 0, api.OK},
		{"\n", 0, api.OK},
		{"\ntype t\n", 1, api.OK},
		{"//", 0, api.OK},
		{"//type\ntype t\n// rel", 1, api.OK},
		{"/", 0, api.ErrLine},
		{" //", 0, api.ErrLine},
		{" ", 0, api.ErrLine},
		{"type t //", 0, api.ErrLine},
		{"type t\r\ntype u", 0, api.ErrLine},
		{"type\tt", 0, api.ErrLine},
		{"type t\x00", 0, api.ErrLine},
		{"types t", 0, api.ErrLine},
		{"t", 0, api.ErrLine},
		{"type", 0, api.ErrLine},
		{"type ", 0, api.ErrLine},
		{"type t ", 0, api.ErrLine},
		{"type  t", 0, api.ErrLine},
		{"type t u", 0, api.ErrLine},
		{"\n\nrel a self\ntype t", 2, api.ErrLine},
		{"set a self\ntype t", 0, api.ErrLine},
		{"type t\ntype u\ntype t", 2, api.ErrName},
		{"type t\nrel a self\nset a self", 2, api.ErrName},
		{"type t\nrel a self\ntype u\nrel a self\nrel a self", 4, api.ErrName},
		{"type t\nrel t self\nrel type self\nrel rel self\nset set self", 1, api.OK},
	})
}

func TestSchemaNames(t *testing.T) {
	for _, name := range []string{"a", "z", "abcdefgh", "selfs", "sel", "type"} {
		checkSchemas(t, []schemaCase{
			{"type " + name, 1, api.OK},
			{"type t\nrel " + name + " self", 1, api.OK},
			{"type t\nrel " + name + " self\nset v " + name + " | " + name + "." + name, 1, api.OK},
		})
	}
	for _, name := range []string{"", "self", "abcdefghi", "A", "aB", "a1", "1", "a_", "é", "`", "{", "a.", "(", "|"} {
		checkSchemas(t, []schemaCase{
			{"type " + name, 0, api.ErrLine},
			{"type t\nrel " + name + " self", 1, api.ErrLine},
			{"type t\nrel v self\nrel w v." + name, 2, api.ErrLine},
			{"type t\nrel v self\nrel w " + name + ".v", 2, api.ErrLine},
		})
		if name != "self" {
			checkSchemas(t, []schemaCase{{"type t\nrel v " + name, 1, api.ErrLine}})
		}
	}
}

func TestSchemaExpressions(t *testing.T) {
	deep := strings.Repeat("( ", 490) + "self" + strings.Repeat(" )", 490)
	for _, good := range []string{
		"self", "b", "b.b", "( self )", "( ( b ) )", "self | b", "self | b | b.b | self", "self & b & b", "self - b", "( self - b ) - b", "self - ( b - b )", "( self | b ) & ( b - b.b )", "( self & b ) | self", deep,
	} {
		checkSchemas(t, []schemaCase{{"type t\nrel a " + good + "\nrel b self", 1, api.OK}})
	}
	for _, bad := range []string{
		"", " self", "self ", "self  | b", "self b", "self self", "| self", "self |", "self | | b", "self || b", "& self", "self &", "- self", "self -", "self - b - b", "self | b & b", "self & b | b", "self | b - b", "self - b | b", "self - b & b", "( self", "self )", "( )", "()", "(self)", "( self | )", "( self b )", "( self ) )", "( self ( b )", ") self (", "( self | b & b )", "b..b", "b.b.b", ".b", "b.", ".", "b. b", "b . b", "self.b", "b.self", "!b", "+", "self + b", deep + " )", "( " + deep,
	} {
		checkSchemas(t, []schemaCase{{"type t\nrel a " + bad + "\nrel b self", 1, api.ErrLine}})
	}
}

func TestSchemaUnknownNames(t *testing.T) {
	checkSchemas(t, []schemaCase{
		{"type t\nrel a b\nrel b self", 1, api.OK},
		{"type t\nrel a b\ntype u\nrel b self", 1, api.ErrName},
		{"type t\nrel a self | ( self & ( a - b ) )", 1, api.ErrName},
		{"type t\nrel a t", 1, api.ErrName},
		{"type t\nrel a b.c\nrel b self\ntype u\nrel c self", 2, api.OK},
		{"type t\nrel a b.c\nrel c self\ntype u\nrel b self", 1, api.ErrName},
		{"type t\nrel a self\nrel b a.c", 2, api.ErrName},
		{"type z\nrel z y\ntype a\nrel a b", 1, api.ErrName},
		{"type t\nrel z y\nrel a b", 1, api.ErrName},
		{"type t\nrel a b\nrel c", 2, api.ErrLine},
		{"type t\nrel a b\ntype t", 2, api.ErrName},
		{"type t\nrel a self - a\nrel b c", 2, api.ErrName},
	})
}

func TestSchemaRings(t *testing.T) {
	checkSchemas(t, []schemaCase{
		{"type t\nrel a a", 1, api.OK},
		{"type t\nrel a b\nrel b c\nrel c a", 1, api.OK},
		{"type t\nset a self | a | a.a", 1, api.OK},
		{"type t\nrel a a - b\nrel b self", 1, api.OK},
		{"type t\nrel a ( b - b ) | a\nrel b self", 1, api.OK},
		{"type t\nrel a a & ( b - b )\nrel b self", 1, api.OK},
		{"type t\nrel a b - a\nrel b self", 3, api.ErrRing},
		{"type t\nrel a b - a\nrel b self\n\n//\n", 6, api.ErrRing},
		{"type t\nrel a b - ( b - a )\nrel b self", 3, api.ErrRing},
		{"type t\nrel a b - ( a - b )\nrel b self", 3, api.ErrRing},
		{"type t\nrel a ( b - ( b & ( b | a ) ) ) | b\nrel b self", 3, api.ErrRing},
		{"type t\nrel a a | ( b - a )\nrel b self", 3, api.ErrRing},
		{"type t\nrel a d - b\nrel b c\nrel c d\nrel d d", 1, api.OK},
		{"type t\nrel a d - b\nrel b c\nrel c a\nrel d d", 5, api.ErrRing},
		{"type t\nrel a b\nrel b c\nrel c d - a\nrel d self", 5, api.ErrRing},
		{"type t\nrel a b - c\nrel b a\nrel c d - e\nrel d c\nrel e self", 1, api.OK},
	})
}

func TestSchemaRingsThroughSets(t *testing.T) {
	checkSchemas(t, []schemaCase{
		{"type t\nrel a self - self", 1, api.OK},
		{"type t\nset a self - self", 2, api.ErrRing},
		{"type t\nset a b - self\nrel b b", 3, api.ErrRing},
		{"type t\nrel a self - self\ntype u\nset b self", 2, api.OK},
		{"type t\nrel a b - self\nrel b b\ntype u\nset c self", 2, api.OK},
		{"type t\nset a b - c\nrel b b\nrel c self", 4, api.ErrRing},
		{"type t\nset a b - c\nrel b b\nrel c b\ntype u\nset d self", 2, api.OK},
		{"type t\nset a b - c\nrel b b\nrel c d.d\nrel d self", 5, api.ErrRing},
		{"type t\nset a self - c\nrel c c", 1, api.OK},
	})
}

func TestSchemaRingsThroughOtherTypes(t *testing.T) {
	checkSchemas(t, []schemaCase{
		{"type t\nrel v self\nrel a v - v.b\ntype u\nrel v self\nrel b v.a", 6, api.ErrRing},
		{"type t\nrel v self\nrel a v - v.b\ntype u\nrel v self\nrel b v.c\nrel c v", 2, api.OK},
		{"type t\nrel v self\nrel a v - v.a", 3, api.ErrRing},
		{"type t\nrel v self\nrel a v | v.a", 1, api.OK},
		// Not on VIA: v hangs on a, but a does not hang on v.
		{"type t\nrel v v - a\nrel a v.b\nrel b b", 1, api.OK},
		// A name is one of the same type only, THEN of every type.
		{"type t\nrel a b - c\nrel b b\nrel c b\ntype u\nrel c a\nrel a a", 2, api.OK},
		{"type t\nrel a b - b.c\nrel b b\nrel c b\ntype u\nrel v v\nrel c v.a", 7, api.ErrRing},
	})
}

func TestSchemaLikeTheWords(t *testing.T) {
	random := rand.New(rand.NewSource(3))
	seen := map[api.Errno]int{}
	for range 10000 {
		text := randomSchema(random)
		number, e := likeTheWords(text)
		seen[e]++
		if n, got := Schema(text); n != number || got != e {
			t.Fatalf("P3: Schema(%q) = %d, %d, want %d, %d", text, n, got, number, e)
		}
	}
	for _, e := range []api.Errno{api.OK, api.ErrLong, api.ErrLine, api.ErrName, api.ErrRing} {
		if seen[e] < 100 {
			t.Errorf("the texts had error %d only %d times", e, seen[e])
		}
	}
}
