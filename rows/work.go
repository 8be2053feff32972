package rows

import (
	"hourglass/field"
)

// work is a matrix at work: a field, and its rows.
type work struct {
	*field.Field
	grid[byte]
}

// dots is of each row its sum of products with v, which is as long.
func (w *work) dots(v []byte) []byte {
	sums := make([]byte, len(w.grid))
	for r, row := range w.grid {
		sums[r], _ = w.Dot(row, v)
	}
	return sums
}

// reduce goes through the first columns, and gives each of them that it can a row that leads it; it answers how many rows lead one.
func (w *work) reduce(columns int) int {
	leads := 0
	for c := range columns {
		if w.raise(leads, c) {
			w.lead(leads, c)
			leads++
		}
	}
	return leads
}

// raise puts into the place r the first row from there on that has a byte but 0 in the column c, if there is one.
func (w *work) raise(r, c int) bool {
	for below := r; below < len(w.grid); below++ {
		if w.grid[below][c] != 0 {
			w.grid[r], w.grid[below] = w.grid[below], w.grid[r]
			return true
		}
	}
	return false
}

// lead makes the column c 1 in the row r, and 0 in all others.
func (w *work) lead(r, c int) {
	first := w.grid[r][c:]        // ahead of c it has noughts alone: so all others keep what they have there
	inverse, _ := w.Inv(first[0]) // it is not 0: it was raised
	for i, cell := range first {
		first[i] = w.Mul(cell, inverse)
	}
	for other, row := range w.grid {
		if part := row[c]; other != r && part != 0 {
			w.add(row[c:], first, part)
		}
	}
}

// add makes a row more by a part of another one.
func (w *work) add(row, more []byte, part byte) {
	for i, cell := range more {
		row[i] = field.Add(row[i], w.Mul(cell, part))
	}
}
