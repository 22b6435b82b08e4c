package warden

import (
	"math/rand"
	"slices"
	"strings"
	"testing"
)

func TestReadOrder(t *testing.T) {
	s := newStore(t, schemaA)
	rising := []string{
		"page:1#banned@user:ann", "page:1#owner@team:red", "page:1#owner@team:red#member", "page:1#owner@team:red0", "page:1#owner@team:redd#member", "page:1#viewer@user:ann", "page:10#banned@user:ann", "page:1a#banned@user:ann", "page:2#banned@user:ann", "page:a#banned@user:ann", "team:0#member@page:9", "team:0#member@user:1", "team:0#member@user:11", "team:0#member@user:a",
	}
	if !slices.IsSorted(rising) {
		t.Fatal("the tuples do not rise")
	}
	random := rand.New(rand.NewSource(7))
	for _, i := range random.Perm(len(rising)) {
		putIn(t, s, rising[i])
	}
	checkRead(t, s, "", rising...)
	checkRead(t, s, "page:1", rising[:8]...)
	checkRead(t, s, "page:1#", rising[:6]...)
	checkRead(t, s, "page:1#owner@team:red", rising[1:5]...)
	checkRead(t, s, "page:1#owner@team:red#", rising[2])
	checkRead(t, s, "page:1#owner@team:red#member", rising[2])
	checkRead(t, s, "p", rising[:10]...)
	checkRead(t, s, "t", rising[10:]...)
	checkRead(t, s, "team:0#member@user:1", rising[11:13]...)
	checkRead(t, s, "team:0#member@user:a", rising[13])
	for _, none := range []string{"page:1#owner@team:red#members", "page:1#owner@team:red#member\x00", "page:3", "page:0", "a", "q", "z", "\x00", "\xff", "Page", " ", "age", "\n", "team:0#member@user:a ", strings.Repeat("page", 100000)} {
		checkRead(t, s, none)
	}
}

func TestReadAnyPrefix(t *testing.T) {
	random := rand.New(rand.NewSource(8))
	s := newStore(t, schemaA)
	var tuples []string
	for _, text := range random.Perm(200) {
		tuples = append(tuples, owners(200)[text])
	}
	putIn(t, s, tuples...)
	slices.Sort(tuples)
	for range 2000 {
		text := tuples[random.Intn(len(tuples))]
		prefix := text[:random.Intn(len(text)+1)]
		if random.Intn(4) == 0 {
			prefix = changed(prefix, "az0:#@\x00\xff", random.Intn)
		}
		var want []string
		for _, other := range tuples {
			if strings.HasPrefix(other, prefix) {
				want = append(want, other)
			}
		}
		checkRead(t, s, prefix, want...)
	}
}

func TestRevisionRisesByOne(t *testing.T) {
	s := newStore(t, schemaA)
	checkRevision(t, s, 0, 0)
	for i := range 300 {
		putIn(t, s, owners(200)[i%200])
		checkRevision(t, s, i+1, 0)
		checkRead(t, s, "nothing")
		checkIn(t, s, true, "page:000#owner@user:ann")
		checkRevision(t, s, i+1, 0)
	}
}
