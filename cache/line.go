package cache

import (
	"hourglass/api"
	"hourglass/code"
)

// line multiplies rows by symbols, as the layer calls code alone: of what is nought at 0 and a row at 1, each symbol is the row by its index.
type line struct{ *code.Coder }

func newLine() (line, api.Errno) {
	coder, e := code.New(api.MaxN, 2)
	return line{coder}, e
}

// times is a row by an index.
func (l line) times(row []byte, index int) []byte {
	product, _ := l.Symbol([][]byte{make([]byte, len(row)), row}, index) // two rows, as long, and an index of the line: there is no error
	return product
}

// sum is that of the rows held, each by its weight.
func (l line) sum(weights []byte, held ...code.Held) []byte {
	sum := make([]byte, len(held[0].Bytes))
	for place, weight := range weights {
		row := held[place].Bytes
		if weight&1 == 1 { // by itself: the rest is even, and so at most 254, the last index there is
			add(sum, row)
		}
		if rest := int(weight &^ 1); rest != 0 {
			add(sum, l.times(row, rest))
		}
	}
	return sum
}

// sums are the matrix by the first rows held.
func (l line) sums(m matrix, held ...code.Held) [][]byte {
	out := make([][]byte, len(m))
	for i, weights := range m {
		out[i] = l.sum(weights, held...)
	}
	return out
}

// add makes a sum more by a row, which is as long: bytes of the field are added by their bits.
func add(sum, row []byte) {
	for i, b := range row {
		sum[i] ^= b
	}
}
