package ordered

import (
	"maps"
	"math/rand"
	"slices"
	"testing"
)

func keys[K Key, V any](l *List[K, V]) []K {
	var all []K
	for k := range l.All() {
		all = append(all, k)
	}
	return all
}

func TestKeysRiseHoweverTheyCome(t *testing.T) {
	want := []string{"", "a", "aa", "ab", "b", "z"}
	random := rand.New(rand.NewSource(1))
	for range 200 {
		var l List[string, int]
		for _, i := range random.Perm(len(want)) {
			l.Put(want[i], i)
		}
		if got := keys(&l); !slices.Equal(got, want) {
			t.Fatalf("keys %q, want %q", got, want)
		}
	}
}

func TestListIsLikeAMap(t *testing.T) {
	var l List[int, int]
	like := map[int]int{}
	random := rand.New(rand.NewSource(2))
	for range 2000 {
		k, v := random.Intn(60)-30, random.Int()
		l.Put(k, v)
		like[k] = v
		gone := random.Intn(80) - 40
		l.Drop(gone)
		delete(like, gone)
		asked := random.Intn(80) - 40
		got, found := l.Get(asked)
		want, there := like[asked]
		if got != want || found != there || l.Has(asked) != there || l.Len() != len(like) {
			t.Fatalf("Get(%d) = %d, %v, want %d, %v; Len() = %d, want %d", asked, got, found, want, there, l.Len(), len(like))
		}
	}
	if !maps.Equal(maps.Collect(l.All()), like) || !slices.IsSorted(keys(&l)) {
		t.Errorf("All: %v, want %v", keys(&l), like)
	}
}

func TestEmptyList(t *testing.T) {
	var l List[string, string]
	l.Drop("a")
	for k := range l.From("") {
		t.Errorf("an empty list has the key %q", k)
	}
	if v, found := l.Get("a"); v != "" || found || l.Has("") || l.Len() != 0 || len(keys(&l)) != 0 {
		t.Errorf("an empty list has %q, %v, %d", v, found, l.Len())
	}
}

func TestAllMayBeLeft(t *testing.T) {
	var l List[int, int]
	for k := range 5 {
		l.Put(k, k)
	}
	seen := 0
	for k := range l.All() {
		seen++
		if k == 2 {
			break
		}
	}
	if seen != 3 {
		t.Errorf("%d keys seen, want 3", seen)
	}
}

func TestFromAKeyOn(t *testing.T) {
	var l List[string, int]
	all := []string{"", "a", "aa", "b", "c", "ca"}
	for i, k := range all {
		l.Put(k, i)
	}
	for _, least := range []string{"", "\x00", "a", "a\x00", "ab", "b", "c", "caa", "d", "\xff"} {
		var want, got []string
		for _, k := range all {
			if k >= least {
				want = append(want, k)
			}
		}
		for k, i := range l.From(least) {
			got = append(got, k)
			if all[i] != k {
				t.Errorf("From(%q): %q has the value %d", least, k, i)
			}
		}
		if !slices.Equal(got, want) {
			t.Errorf("From(%q) = %q, want %q", least, got, want)
		}
	}
	for k := range l.From("aa") {
		if k != "aa" {
			t.Errorf("From goes on to %q behind a break", k)
		}
		break
	}
}

func TestAnyTwice(t *testing.T) {
	for _, once := range [][]string{nil, {""}, {"a", ""}, {"b", "a", "c"}, {"a", "aa", "aaa"}} {
		if AnyTwice(once) {
			t.Errorf("AnyTwice(%q)", once)
		}
		for _, k := range once {
			twice := append(slices.Clone(once), k)
			before := slices.Clone(twice)
			if !AnyTwice(twice) {
				t.Errorf("not AnyTwice(%q)", twice)
			}
			if !slices.Equal(twice, before) {
				t.Errorf("AnyTwice made %q of %q", twice, before)
			}
		}
	}
}

func TestEmptiedFromEitherEnd(t *testing.T) {
	for _, from := range []string{"front", "back", "both"} {
		var l List[int, int]
		for k := range 40 {
			l.Put(k, -k)
		}
		low, high := 0, 40
		for low < high {
			if from == "front" || from == "both" && (low+high)%3 == 0 {
				l.Drop(low)
				low++
			} else {
				high--
				l.Drop(high)
			}
			for k, v := range l.All() {
				if v != -k {
					t.Fatalf("%s: %d has the value %d", from, k, v)
				}
			}
			if got := keys(&l); len(got) != high-low || len(got) > 0 && (got[0] != low || got[len(got)-1] != high-1) || !slices.IsSorted(got) {
				t.Fatalf("%s: the keys from %d to %d are %v", from, low, high, got)
			}
		}
		l.Put(7, 8)
		if v, found := l.Get(7); v != 8 || !found || l.Len() != 1 {
			t.Errorf("%s: a key put in behind all: %d, %v, %d", from, v, found, l.Len())
		}
	}
}

func TestRise(t *testing.T) {
	for _, l := range [][]string{nil, {""}, {"a"}, {"", "a", "aa", "ab", "b"}} {
		if !Rise(l) {
			t.Errorf("Rise(%q) = false", l)
		}
	}
	for _, l := range [][]string{{"", ""}, {"a", "a"}, {"b", "a"}, {"a", "c", "b"}, {"aa", "a"}, {"a", "b", "b", "c"}, {"a", "b", "a"}} {
		if Rise(l) {
			t.Errorf("Rise(%q) = true", l)
		}
	}
}
