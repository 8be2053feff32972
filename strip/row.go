package strip

import "iter"

// asker answers the row at a place: so that rows of a list, and such as are parts of one, are told alike.
type asker func(place int) []byte

// of asks rows as they stand.
func of(rows [][]byte) asker {
	return func(place int) []byte { return rows[place] }
}

// within asks the parts of one list, each of so many bytes.
func within(list []byte, width int) asker {
	return func(place int) []byte {
		from, to := place*width, (place+1)*width
		return list[from:to:to] // a row that is made longer must not reach into the next one
	}
}

// told are the rows at the first places, in order.
func told(places int, row asker) iter.Seq[[]byte] {
	return func(yield func([]byte) bool) {
		for place := range places {
			if !yield(row(place)) {
				return
			}
		}
	}
}
