package group

import (
	"cmp"
	"iter"
	"maps"
	"slices"
)

// store has things by keys.
type store[K cmp.Ordered, T any] map[K]T

func (s store[K, T]) many() int { return len(s) }

// has says whether a key has a thing: it may be one without bytes, and so the thing alone does not tell it.
func (s store[K, T]) has(asked K) bool {
	_, there := s[asked]
	return there
}

func (s store[K, T]) put(key K, thing T) { s[key] = thing }

// ordered are all keys, rising, each with its thing: what is told must not hang on the order of a map, nor on that in which things came.
func (s store[K, T]) ordered() iter.Seq2[K, T] {
	return func(yield func(K, T) bool) {
		for _, key := range slices.Sorted(maps.Keys(s)) {
			if !yield(key, s[key]) {
				return
			}
		}
	}
}
