package size

import (
	"hourglass/api"
	"hourglass/strip"
)

// asker answers the number at a place: so that thresholds that are told, and such as are all the same, are asked alike.
type asker func(place int) int

// of asks numbers as they stand.
func of(numbers ...int) asker {
	return func(place int) int { return numbers[place] }
}

// all asks a number that is the same at each place.
func all(number int) asker {
	return func(int) int { return number }
}

// hold says whether there is room for so many layers of such lengths, by such thresholds.
func (b Bounds) hold(layers int, long, k asker) bool {
	room, e := Room(b, layers)
	if e != api.OK {
		return false
	}
	least := 1
	for place := range layers {
		width, e := strip.Width(long(place), k(place))
		if e != api.OK || k(place) < least || k(place) > b.N {
			return false
		}
		least, room = k(place), room-width
	}
	return room >= 0
}
