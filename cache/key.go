package cache

import "hourglass/api"

// key is what a matrix is kept by: k, and the first k indexes, in order, with noughts behind them.
type key struct {
	k     int // the noughts alone do not tell it: 0 is an index, too
	first [api.MaxN]byte
}

// keyOf is the key of k and indexes, if these have one.
func keyOf(k int, indexes ...int) (key, bool) {
	if k < 1 || k > api.MaxN || k > len(indexes) {
		return key{}, false
	}
	made := key{k: k}
	for place, index := range indexes[:k] {
		if index < 0 || index >= api.MaxN { // as a byte it would be another index
			return key{}, false
		}
		made.first[place] = byte(index)
	}
	return made, true
}
