package cache

import (
	"bytes"

	"hourglass/code"
)

// matrix is one that a coder made.
type matrix [][]byte

func (m matrix) copied() [][]byte {
	out := make([][]byte, len(m))
	for i, row := range m {
		out[i] = bytes.Clone(row)
	}
	return out
}

// even says whether all symbols are as long.
func even(held ...code.Held) bool {
	for _, symbol := range held {
		if len(symbol.Bytes) != len(held[0].Bytes) {
			return false
		}
	}
	return true
}
