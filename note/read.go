package note

import (
	"iter"
	"slices"

	"hourglass/api"
	"hourglass/pack"
	"hourglass/sum"
)

// reader reads what is sealed.
type reader struct {
	*pack.Reader
}

// open reads what is sealed, from behind the version on.
func open(b []byte) (reader, api.Errno) {
	sealed, e := sum.Open(b)
	if e != api.OK {
		return reader{}, e
	}
	r := reader{pack.Over(sealed)}
	if r.Left() == 0 {
		return reader{}, api.ErrShape
	}
	if r.Number(1) != version {
		return reader{}, api.ErrVersion
	}
	return r, api.OK
}

// report reads a report; where bytes are missing the reader tells it at its end.
func (r reader) report() api.Note {
	var n api.Note
	var many int
	r.numbers(2, &n.Stream)
	r.numbers(4, &n.Seq)
	r.numbers(1, &n.N, &many)
	n.Counts = slices.Collect(r.counts(many))
	return n
}

// counts reads so many.
func (r reader) counts(many int) iter.Seq[api.Count] {
	return func(yield func(api.Count) bool) {
		for range many {
			var c api.Count
			r.numbers(1, &c.Came)
			r.numbers(2, &c.Times)
			if !yield(c) {
				return
			}
		}
	}
}

// numbers reads some of one size.
func (r reader) numbers(size int, numbers ...*int) {
	for _, n := range numbers {
		*n = r.Number(size)
	}
}
