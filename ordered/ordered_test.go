package ordered

import (
	"maps"
	"math/rand"
	"slices"
	"testing"
)

func keys[K Key, V any](l *List[K, V]) []K {
	var all []K
	for k := range l.All() {
		all = append(all, k)
	}
	return all
}

func TestKeysRiseHoweverTheyCome(t *testing.T) {
	want := []string{"", "a", "aa", "ab", "b", "z"}
	random := rand.New(rand.NewSource(1))
	for range 200 {
		var l List[string, int]
		for _, i := range random.Perm(len(want)) {
			l.Put(want[i], i)
		}
		if got := keys(&l); !slices.Equal(got, want) {
			t.Fatalf("keys %q, want %q", got, want)
		}
	}
}

func TestListIsLikeAMap(t *testing.T) {
	var l List[int, int]
	like := map[int]int{}
	random := rand.New(rand.NewSource(2))
	for range 2000 {
		k, v := random.Intn(60)-30, random.Int()
		l.Put(k, v)
		like[k] = v
		asked := random.Intn(80) - 40
		got, found := l.Get(asked)
		want, there := like[asked]
		if got != want || found != there || l.Has(asked) != there || l.Len() != len(like) {
			t.Fatalf("Get(%d) = %d, %v, want %d, %v; Len() = %d, want %d", asked, got, found, want, there, l.Len(), len(like))
		}
	}
	if !maps.Equal(maps.Collect(l.All()), like) || !slices.IsSorted(keys(&l)) {
		t.Errorf("All: %v, want %v", keys(&l), like)
	}
}

func TestEmptyList(t *testing.T) {
	var l List[string, string]
	if v, found := l.Get("a"); v != "" || found || l.Has("") || l.Len() != 0 || len(keys(&l)) != 0 {
		t.Errorf("an empty list has %q, %v, %d", v, found, l.Len())
	}
}

func TestAllMayBeLeft(t *testing.T) {
	var l List[int, int]
	for k := range 5 {
		l.Put(k, k)
	}
	seen := 0
	for k := range l.All() {
		seen++
		if k == 2 {
			break
		}
	}
	if seen != 3 {
		t.Errorf("%d keys seen, want 3", seen)
	}
}
