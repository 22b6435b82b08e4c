package warden

import (
	"math/rand"
	"regexp"
	"strings"
	"testing"

	"warden/api"
)

func checkFits(t *testing.T, schema string, want api.Errno, tuples ...string) {
	t.Helper()
	for _, tuple := range tuples {
		if e := Fits(schema, tuple); e != want {
			t.Errorf("P4: Fits(.., %.200q) = %d, want %d", tuple, e, want)
		}
	}
}

func TestFitsExamples(t *testing.T) {
	checkFits(t, schemaA, api.OK, "page:7#viewer@user:ann", "page:7#viewer@team:red#member")
	checkFits(t, schemaA, api.ErrFit, "page:7#viewer@page:8#owner")
	checkFits(t, schemaA, api.ErrText, "page:7#viewer")
}

func TestFitsTexts(t *testing.T) {
	checkFits(t, schemaA, api.OK,
		"page:a#viewer@user:0", "page:abcdefgh#viewer@user:01234567", "page:self#viewer@user:self", "team:0#member@team:0#member", "page:z9#owner@page:9z", "team:red#member@user:user")
	checkFits(t, schemaA, api.ErrText,
		"", "@", "#@", ":#@:", ":#@:#", "page", "page:7", "page:7#viewer@", "@user:ann", "#viewer@user:ann", "page:7@user:ann", "page:7#@user:ann", "page#viewer@user:ann", "page:#viewer@user:ann", ":7#viewer@user:ann", "page:7#viewer@user", "page:7#viewer@user:", "page:7#viewer@:ann", "page:7#viewer@#member", "page:7#viewer@team:red#", "page:7#viewer@team#member",
		"page:7#viewer#viewer@user:ann", "page:7#viewer@team:red#member#member", "page:7#viewer@user:ann@user:bob", "page:7:7#viewer@user:ann", "page:7#viewer@user:ann:ann", "page:7#viewer:7@user:ann", "user:ann@page:7#viewer", "page:7.viewer@user:ann",
		" page:7#viewer@user:ann", "page:7#viewer@user:ann ", "page: 7#viewer@user:ann", "page:7#viewer @user:ann", "page:7#viewer@user:ann\n", "page:7#viewer@user:ann\x00", "\ufeffpage:7#viewer@user:ann")
}

func TestFitsNamesAndIDs(t *testing.T) {
	for _, name := range []string{"Page", "p1", "self", "abcdefghi", "", "é", "pa ge"} {
		checkFits(t, schemaA, api.ErrText, name+":7#viewer@user:ann", "page:7#"+name+"@user:ann", "page:7#viewer@"+name+":ann", "page:7#viewer@team:red#"+name)
	}
	for _, id := range []string{"A", "123456789", "abcdefghi", "", "é", "a b", "a-b", "a_b", "/", ":", "`", "{"} {
		checkFits(t, schemaA, api.ErrText, "page:"+id+"#viewer@user:ann", "page:7#viewer@user:"+id, "page:7#viewer@team:"+id+"#member")
	}
}

func TestFitsWhatTheSchemaKnows(t *testing.T) {
	checkFits(t, schemaA, api.ErrFit,
		"book:7#viewer@user:ann", "viewer:7#viewer@user:ann", "abcdefgh:7#viewer@user:ann", "page:7#editor@user:ann", "page:7#member@user:ann", "team:7#viewer@user:ann", "user:7#member@user:ann", "page:7#page@user:ann",
		"page:7#viewer@book:ann", "page:7#viewer@member:ann", "page:7#viewer@book:red#member", "page:7#viewer@team:red#viewer", "page:7#viewer@user:ann#member", "page:7#viewer@page:7#member", "page:7#viewer@page:7#viewer", "page:7#viewer@page:7#banned", "page:7#viewer@team:red#team")
	checkFits(t, "", api.ErrFit, "page:7#viewer@user:ann")
	checkFits(t, "", api.ErrText, "page:7#viewer")
	both := "type t\nset a self\ntype u\nrel a self"
	checkFits(t, both, api.OK, "t:1#a@t:1#a", "u:1#a@t:1#a", "t:1#a@u:1")
	checkFits(t, both, api.ErrFit, "t:1#a@u:1#a")
}

func TestFitsErrorOfSchema(t *testing.T) {
	for schema, want := range map[string]api.Errno{
		strings.Repeat("\n", 2001):      api.ErrLong,
		"type":                          api.ErrLine,
		schemaA + "\ntype page":         api.ErrName,
		withViewer("self | editor"):     api.ErrName,
		withViewer("self - viewer"):     api.ErrRing,
		lines(names(7, "type", "")...):  api.ErrLong,
		withViewer("self | owner - no"): api.ErrLine,
	} {
		checkFits(t, schema, want, "page:7#viewer@user:ann", "page:7#viewer@page:8#owner", "page:7#viewer", "")
	}
}

// The same by patterns: what a tuple is, and which ones fit the document's schema.
var (
	tuplePattern = regexp.MustCompile(`^([a-z]{1,8}):[a-z0-9]{1,8}#([a-z]{1,8})@([a-z]{1,8}):[a-z0-9]{1,8}(#([a-z]{1,8}))?$`)
	fitPattern   = regexp.MustCompile(`^(team:[^#]*#member|page:[^#]*#(banned|viewer|owner))@((user|team|page):[^#]*|team:[^#]*#member)$`)
)

func fitsByPattern(text string) api.Errno {
	m := tuplePattern.FindStringSubmatch(text)
	if m == nil || m[1] == "self" || m[2] == "self" || m[3] == "self" || m[5] == "self" {
		return api.ErrText
	}
	if !fitPattern.MatchString(text) {
		return api.ErrFit
	}
	return api.OK
}

func TestFitsLikePatterns(t *testing.T) {
	random := rand.New(rand.NewSource(4))
	word := func() string {
		return randomWord(random, "user", "team", "page", "member", "banned", "viewer", "owner", "self", "a")
	}
	seen := map[api.Errno]int{}
	for range 20000 {
		text := randomWord(random, "page", "team", word()) + ":7#" + word() + "@" + word() + ":1a"
		if random.Intn(2) == 0 {
			text += "#" + randomWord(random, "member", word())
		}
		if random.Intn(3) == 0 {
			text = changed(text, "az09:#@ AZ\n", random.Intn)
		}
		want := fitsByPattern(text)
		seen[want]++
		checkFits(t, schemaA, want, text)
	}
	for _, e := range []api.Errno{api.OK, api.ErrText, api.ErrFit} {
		if seen[e] < 200 {
			t.Errorf("the texts had error %d only %d times", e, seen[e])
		}
	}
}
