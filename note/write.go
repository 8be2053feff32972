package note

import (
	"hourglass/api"
	"hourglass/pack"
)

// written is what is sealed of a right report.
func written(n api.Note) ([]byte, api.Errno) {
	w := pack.New()
	numbers(w, 1, version)
	numbers(w, 2, n.Stream)
	numbers(w, 4, n.Seq)
	numbers(w, 1, n.N, len(n.Counts))
	for came, times := range told(n) {
		numbers(w, 1, came)
		numbers(w, 2, times)
	}
	return w.Bytes()
}

// numbers writes some of one size.
func numbers(w *pack.Writer, size int, row ...int) {
	for _, n := range row {
		w.Number(n, size)
	}
}
