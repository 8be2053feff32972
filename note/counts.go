package note

import (
	"iter"

	"hourglass/api"
)

// most is what Times may be: the greatest number of its size.
const most = 1<<16 - 1

// counted says whether counts are those of a right report of n.
func counted(n int, counts []api.Count) bool {
	last := 0
	for _, c := range counts {
		if c.Came <= last || c.Came > n || c.Times < 1 || c.Times > most {
			return false
		}
		last = c.Came
	}
	return true
}

// told tells the counts of a right report; of another one there are none.
func told(n api.Note) iter.Seq2[int, int] {
	return func(yield func(came, times int) bool) {
		if !Right(n) {
			return
		}
		for _, c := range n.Counts {
			if !yield(c.Came, c.Times) {
				return
			}
		}
	}
}
