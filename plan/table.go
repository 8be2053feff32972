package plan

import "slices"

// table is what is known of the layers from one on: a row for each least threshold that they may have, a cell of it for each room that there is for them.
type table[C any] [][]C

// filled is a table of the thresholds up to n, and of one more, of which there are none; its cells are all the same. (No threshold is 0: that row is never asked.)
func filled[C any](n, room int, cell C) table[C] {
	t := make(table[C], n+2)
	for k := range t {
		t[k] = slices.Repeat([]C{cell}, room+1)
	}
	return t
}

// inherit makes the row of a least threshold what that of the next one is: all that fits the greater one fits the lesser one.
func (t table[C]) inherit(k int) { copy(t[k], t[k+1]) }
