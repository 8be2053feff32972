package code

import (
	"hourglass/api"
	"hourglass/field"
	"hourglass/rows"
)

// coder is a field, and of each symbol the weights by which it is the sum of a source's rows.
type coder struct {
	*field.Field
	table [][]byte
}

// asker answers the row at a place: so that it does not matter where rows stand.
type asker func(place int) []byte

// of asks rows that stand in a list.
func of(list ...[]byte) asker {
	return func(place int) []byte { return list[place] }
}

// even says whether the rows at the first places are all as long.
func even(places int, row asker) bool {
	for place := range places {
		if len(row(place)) != len(row(0)) {
			return false
		}
	}
	return true
}

// enough is how many symbols are.
func (c *coder) enough() int { return len(c.table[0]) }

func (c *coder) has(index int) bool { return index >= 0 && index < len(c.table) }

// takes says whether rows are a source.
func (c *coder) takes(source ...[]byte) bool {
	return len(source) == c.enough() && even(len(source), of(source...))
}

// sum is that of rows, each by its weight; they are all as long as the first one.
func (c *coder) sum(row asker, weights []byte) []byte {
	sum := make([]byte, len(row(0)))
	for place, weight := range weights {
		if weight == 0 { // of a source's own rows all weights but one are: they cost no product
			continue
		}
		for i, b := range row(place) {
			sum[i] = field.Add(sum[i], c.Mul(weight, b))
		}
	}
	return sum
}

// sums is a sum of the rows for each of more weights.
func (c *coder) sums(row asker, weights ...[]byte) [][]byte {
	out := make([][]byte, len(weights))
	for i, each := range weights {
		out[i] = c.sum(row, each)
	}
	return out
}

// turn is the matrix that turns the first symbols of these indexes to their source.
func (c *coder) turn(indexes ...int) ([][]byte, api.Errno) {
	if e := c.check(indexes...); e != api.OK {
		return nil, e
	}
	chosen := make([][]byte, c.enough())
	for place := range chosen {
		chosen[place] = c.table[indexes[place]]
	}
	return rows.Inverse(chosen) // it has one: any rows of the table do, if they are enough
}

// check is the first error of indexes; one that is none counts ahead of one that stands twice, wherever they stand.
func (c *coder) check(indexes ...int) api.Errno {
	for _, index := range indexes {
		if !c.has(index) {
			return api.ErrArg
		}
	}
	var seen [api.MaxN]bool
	for _, index := range indexes {
		if seen[index] {
			return api.ErrTwice
		}
		seen[index] = true
	}
	if len(indexes) < c.enough() {
		return api.ErrFew
	}
	return api.OK
}
