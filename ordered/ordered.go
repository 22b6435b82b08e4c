// Package ordered: lists that are kept in the order of their keys.
package ordered

import (
	"cmp"
	"iter"
	"slices"
)

// Key is what a list can be ordered by. Floats are left out: NaN has no place in their order.
type Key interface {
	~string | ~int
}

// List holds one value for each key, by rising keys, so that what is told of it never hangs on the order in which it was filled. The zero List is empty and ready.
type List[K Key, V any] struct {
	entries []entry[K, V]
}

type entry[K Key, V any] struct {
	key   K
	value V
}

// Len is the number of keys.
func (l *List[K, V]) Len() int { return len(l.entries) }

// Get is the value of a key, and whether it has one.
func (l *List[K, V]) Get(key K) (V, bool) {
	place, found := l.find(key)
	if !found {
		var none V
		return none, false
	}
	return l.entries[place].value, true
}

// Has tells whether a key has a value.
func (l *List[K, V]) Has(key K) bool {
	_, found := l.find(key)
	return found
}

// Put gives a key a value, in place of the one it may have.
func (l *List[K, V]) Put(key K, value V) {
	place, found := l.find(key)
	if found {
		l.entries[place].value = value
		return
	}
	l.entries = slices.Insert(l.entries, place, entry[K, V]{key, value})
}

// Drop takes a key and its value away, if it is there. Of the entries around it the fewer ones move, so that a long list can be emptied from either end.
func (l *List[K, V]) Drop(key K) {
	place, found := l.find(key)
	if !found {
		return
	}
	if place >= len(l.entries)/2 {
		l.entries = slices.Delete(l.entries, place, place+1)
		return
	}
	copy(l.entries[1:place+1], l.entries[:place])
	clear(l.entries[:1])
	l.entries = l.entries[1:]
}

// All goes over the keys and their values, by rising keys.
func (l *List[K, V]) All() iter.Seq2[K, V] {
	return func(yield func(K, V) bool) { each(l.entries, yield) }
}

// From goes over the keys that are not below one, and their values, by rising keys.
func (l *List[K, V]) From(least K) iter.Seq2[K, V] {
	return func(yield func(K, V) bool) {
		place, _ := l.find(least)
		each(l.entries[place:], yield)
	}
}

func each[K Key, V any](entries []entry[K, V], yield func(K, V) bool) {
	for _, e := range entries {
		if !yield(e.key, e.value) {
			return
		}
	}
}

// find is the place where a key is, or would be.
func (l *List[K, V]) find(key K) (int, bool) {
	return slices.BinarySearchFunc(l.entries, key, func(e entry[K, V], k K) int {
		return cmp.Compare(e.key, k)
	})
}

// AnyTwice tells whether a key stands twice among some. A sorted copy is gone through: else each would have to be held against all others.
func AnyTwice[K Key](keys []K) bool {
	sorted := slices.Sorted(slices.Values(keys))
	return len(slices.Compact(sorted)) < len(keys)
}

// Rise tells whether each key is above the one ahead of it.
func Rise[K Key](keys []K) bool {
	return slices.IsSorted(keys) && !AnyTwice(keys)
}
