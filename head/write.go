package head

import (
	"hourglass/api"
	"hourglass/pack"
)

// writer writes what stands ahead of a body.
type writer struct {
	*pack.Writer
}

func fresh() writer { return writer{pack.New()} }

// numbers writes some of one size.
func (w writer) numbers(size int, numbers ...int) {
	for _, n := range numbers {
		w.Number(n, size)
	}
}

// header writes the version and a header.
func (w writer) header(h api.Head) {
	w.numbers(1, version)
	w.numbers(2, h.Stream)
	w.numbers(4, h.Frame)
	w.numbers(1, h.Index, h.N, len(h.Rows))
	w.numbers(4, h.Deadline)
	for _, row := range h.Rows {
		w.numbers(1, row.K)
		w.numbers(2, row.Len)
	}
}
