package cache

// shelf keeps things by keys, as many as it has room for: for one more, the one that was used longest ago goes.
type shelf[K comparable, T any] struct {
	room         int
	spots        map[K]spot[T]
	hits, misses int
}

// spot is a thing, and how many were asked for up to its last use: no two spots have this alike, and so none hangs on the order of a map.
type spot[T any] struct {
	thing T
	used  int
}

func newShelf[K comparable, T any](room int) *shelf[K, T] {
	return &shelf[K, T]{room: room, spots: map[K]spot[T]{}}
}

func (s *shelf[K, T]) kept() int { return len(s.spots) }

// has says whether a key's thing is kept, and uses nothing.
func (s *shelf[K, T]) has(asked K) bool {
	_, kept := s.spots[asked]
	return kept
}

// take is a key's thing, if it is kept: a hit.
func (s *shelf[K, T]) take(asked K) (T, bool) {
	found, kept := s.spots[asked]
	if kept {
		s.hits++
		s.use(asked, found.thing)
	}
	return found.thing, kept
}

// put keeps a thing that was not kept: a miss.
func (s *shelf[K, T]) put(asked K, thing T) {
	s.misses++
	if len(s.spots) == s.room {
		delete(s.spots, s.oldest())
	}
	s.use(asked, thing)
}

func (s *shelf[K, T]) use(asked K, thing T) {
	s.spots[asked] = spot[T]{thing, s.hits + s.misses}
}

// oldest is the key of the thing that was used longest ago.
func (s *shelf[K, T]) oldest() K {
	var first K
	least := s.hits + s.misses // all that are kept were used ahead of what is counted now
	for each, found := range s.spots {
		if found.used < least {
			first, least = each, found.used
		}
	}
	return first
}
