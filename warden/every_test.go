package warden

import (
	"fmt"
	"math/rand"
	"slices"
	"strings"
	"sync"
	"testing"

	"warden/api"
)

// anyTexts: what nobody should hand in, and what is right, side by side.
func anyTexts() []string {
	texts := []string{
		"", "\n", " ", "\x00", "\xff\xfe", "\xed\xa0\x80", "é", "type", "type t", schemaA, withViewer("self - viewer"), withViewer("self | editor"),
		"type t\nrel a " + strings.Repeat("( ", 990), "type t\nrel a " + strings.Repeat("( self | ", 190), "type t\nrel a self" + strings.Repeat(" )", 900), "type t\nrel a self" + strings.Repeat(" | self", 280), "type t\nrel a " + strings.Repeat("a.", 900),
		"page:7#viewer@user:ann", strings.Repeat(":", 3000), strings.Repeat("#", 3000), strings.Repeat("@", 3000), strings.Repeat("page:7#viewer@", 100000),
		libraryFrame(""), libraryFrame("0") + libraryFrame("end"), strings.Repeat(libraryFrame(""), 3000), "\xff\xff", strings.Repeat("\xff", 70000), strings.Repeat("\x00", 70000),
	}
	for b := range 256 {
		texts = append(texts, string([]byte{byte(b)}))
	}
	random := rand.New(rand.NewSource(5))
	for range 300 {
		b := make([]byte, random.Intn(60))
		random.Read(b)
		texts = append(texts, string(b), changed(schemaA, "az #@:.|&-()\n\x00\xff", random.Intn))
	}
	return texts
}

// answers is all that the calls say of a text.
func answers(text string) string {
	number, e := Schema(text)
	framed, long := Frame(text)
	payloads, length := Frames(text)
	return fmt.Sprintf("%d %d %d %d %q %d %q %d", number, e, Fits(schemaA, text), Fits(text, "t:1#a@t:1"), framed, long, payloads, length)
}

func TestCallsEndAtAllTexts(t *testing.T) {
	for _, text := range anyTexts() {
		func() {
			defer func() {
				if p := recover(); p != nil {
					t.Errorf("P1: at %.80q a call panics: %v", text, p)
				}
			}()
			answers(text)
		}()
	}
}

func TestErrorsComeAlone(t *testing.T) {
	for _, text := range anyTexts() {
		if framed, e := Frame(text); (e == api.OK) != (len(text) <= 65535) || e != api.OK && framed != "" {
			t.Errorf("P1: Frame of %d bytes: %d bytes, %d", len(text), len(framed), e)
		}
		_, e := Schema(text)
		if fit := Fits(text, ""); e != api.OK && fit != e || e == api.OK && fit != api.ErrText {
			t.Errorf("P1: Fits(%.80q, ..) = %d, of a schema with %d", text, fit, e)
		}
	}
}

func TestErrorNamedFirst(t *testing.T) {
	types := names(6, "type", "")
	checkSchemas(t, []schemaCase{
		{"bad" + strings.Repeat("\n", 2000), 0, api.ErrLong},
		{"type t\nrel a b\nbad", 2, api.ErrLine},
		{"type t\nbad\ntype t", 1, api.ErrLine},
		{"type t\ntype t\nbad", 1, api.ErrName},
		{lines(append(types, "type a")...), 6, api.ErrName},
		{"type t\nset a a - a\nrel b c", 2, api.ErrName},
	})
	checkFits(t, "bad", api.ErrLine, "bad", "book:7#viewer@user:ann")
	checkFits(t, schemaA, api.ErrText, "book:7#viewer@user:Ann", "page:7#editor@user:", "book:7#viewer@team:red#self")
}

func TestAnswersHangOnArgumentsAlone(t *testing.T) {
	texts := anyTexts()
	var first []string
	for _, text := range texts {
		first = append(first, answers(text))
	}
	for i, text := range slices.Backward(texts) {
		if again := answers(text); again != first[i] {
			t.Errorf("P2: at %.80q the calls answer %.200s, and then %.200s", text, first[i], again)
		}
	}
	var group sync.WaitGroup
	side := make([]string, len(texts))
	for i, text := range texts {
		group.Go(func() { side[i] = answers(text) })
	}
	group.Wait()
	if !slices.Equal(side, first) {
		t.Errorf("P2: side by side the calls answer otherwise")
	}
}

func TestListsAreNewMemory(t *testing.T) {
	for count := range 40 {
		data := ""
		var want []string
		for i := range count {
			want = append(want, strings.Repeat("p", i))
			data += libraryFrame(want[i])
		}
		mine, _ := Frames(data)
		other, _ := Frames(data)
		// The spare room is written into as well.
		for i := range mine[:cap(mine)] {
			mine[:cap(mine)][i] = "mine"
		}
		later, _ := Frames(data)
		if !slices.Equal(other, want) || !slices.Equal(later, want) {
			t.Errorf("P2: behind what was written Frames are %q and %q, want %q", other, later, want)
		}
		for _, s := range other[len(other):cap(other)] {
			if s == "mine" {
				t.Errorf("P2: two lists of Frames share their spare room")
			}
		}
	}
}
