package lay

import (
	"iter"

	"hourglass/api"
	"hourglass/code"
	"hourglass/strip"
)

// sheet is rows that are asked by their places: so that those of a table, and those that layers make with thresholds, are gone through alike.
type sheet struct {
	places int
	row    func(place int) api.Row
}

// of is a table's.
func of(table []api.Row) sheet {
	return sheet{len(table), func(place int) api.Row { return table[place] }}
}

// by is that of layers and thresholds, which are as many.
func by(layers [][]byte, ks []int) sheet {
	return sheet{len(ks), func(place int) api.Row { return api.Row{K: ks[place], Len: len(layers[place])} }}
}

// parts are the rows at their places, in order, each with its stripe's.
func (s sheet) parts() iter.Seq2[int, part] {
	return func(yield func(int, part) bool) {
		from := 0
		for place := range s.places {
			row := s.row(place)
			width, _ := strip.Width(row.Len, row.K) // a row that has none is no table's: right refuses it
			if !yield(place, part{row, from, from + width}) {
				return
			}
			from += width
		}
	}
}

// right says whether the rows are a table.
func (s sheet) right(n int) bool {
	if n < 1 || n > api.MaxN || s.places < 1 || s.places > api.MaxLayers {
		return false
	}
	least := 1
	for _, p := range s.parts() {
		if p.row.K < least || p.row.K > n || p.row.Len < 0 || p.row.Len > api.MaxLayer {
			return false
		}
		least = p.row.K
	}
	return true
}

// long is how long a body is.
func (s sheet) long() int {
	long := 0
	for _, p := range s.parts() {
		long = p.to
	}
	return long
}

// ready is of how many rows so many bodies are enough.
func (s sheet) ready(came int) int {
	for place, p := range s.parts() {
		if p.row.K > came {
			return place // no threshold is below the one ahead: of those behind it they are not enough either
		}
	}
	return s.places
}

// check is the first error of bodies; one that is none counts ahead of one that stands twice, wherever they stand.
func (s sheet) check(n int, held ...code.Held) api.Errno {
	long := s.long()
	for _, body := range held {
		if body.Index < 0 || body.Index >= n || len(body.Bytes) != long {
			return api.ErrArg
		}
	}
	var seen [api.MaxN]bool
	for _, body := range held {
		if seen[body.Index] {
			return api.ErrTwice
		}
		seen[body.Index] = true
	}
	return api.OK
}
