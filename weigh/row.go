package weigh

import "cmp"

// asker answers the number at a place: so that a list is held against another one, against a bound, and against itself, alike.
type asker func(place int) int

// of asks numbers as they stand.
func of(numbers []int) asker {
	return func(place int) int { return numbers[place] }
}

// all asks a number that is the same at each place.
func all(number int) asker {
	return func(int) int { return number }
}

// behind asks the same numbers one place further on, behind a first one.
func (a asker) behind(first int) asker {
	return func(place int) int {
		if place == 0 {
			return first
		}
		return a(place - 1)
	}
}

// first is the first of so many places at which what one row has stands so to what the other has; as many as there are, if it does so at none.
func first[T any](places int, one, other func(place int) T, so func(one, other T) bool) int {
	for place := range places {
		if so(one(place), other(place)) {
			return place
		}
	}
	return places
}

// atMost says whether what is lower is nowhere above what is higher.
func atMost(places int, lower, higher asker) bool {
	return first(places, higher, lower, cmp.Less[int]) == places
}

// ahead says whether, at the first place at which rows are not the same, the one is the lesser one.
func ahead(places int, one, other asker) bool {
	place := first(places, one, other, func(a, b int) bool { return a != b })
	return place < places && one(place) < other(place)
}
