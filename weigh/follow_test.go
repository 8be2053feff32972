package weigh_test

import (
	"slices"
	"testing"

	"hourglass/api"
	"hourglass/weigh"
)

// P12.4

// tasks are worths and weights for 3 datagrams.
func tasks() (worths, weights [][]int) {
	return [][]int{{2, 1, 3}, {1, 1, 1}, {0, 0, 0}, {0, 9, 0}, {1048576, 1, 1048576}}, [][]int{{9, 5, 5, 3}, {9, 7, 5, 3}, {8, 8, 8, 8}, {65536, 65536, 65536, 65536}, {65536, 65536, 1, 0}, {0, 0, 0, 0}}
}

// better says what the package says, where there is no error.
func better(t *testing.T, worths, ks, other, w []int) bool {
	t.Helper()
	is, e := weigh.Better(worths, ks, other, w)
	if e != api.OK {
		t.Error(worths, ks, other, w, e)
	}
	return is
}

// score is what the package tells, where there is no error.
func score(t *testing.T, worths, ks, w []int) int {
	t.Helper()
	s, e := weigh.Score(worths, ks, w)
	if e != api.OK {
		t.Error(worths, ks, w, e)
	}
	return s
}

// Of unlike thresholds just one is better; of those that are the same none is.
func TestJustOneIsBetter(t *testing.T) {
	rows := lists(3, 1, 2, 3)
	worths, weights := tasks()
	for _, worth := range worths {
		for _, w := range weights {
			for _, ks := range rows {
				for _, other := range rows {
					one, two := better(t, worth, ks, other, w), better(t, worth, other, ks, w)
					if slices.Equal(ks, other) && (one || two) || !slices.Equal(ks, other) && one == two {
						t.Error(worth, ks, other, w, one, two)
					}
				}
			}
		}
	}
}

// What is better than a better one is better.
func TestBetterThanABetterOne(t *testing.T) {
	rows := lists(3, 1, 2, 3)
	worths, weights := tasks()
	for _, worth := range worths {
		for _, w := range weights {
			slices.SortFunc(rows, func(a, b []int) int {
				if better(t, worth, a, b, w) {
					return -1
				}
				return 1
			})
			for place := range rows {
				for last := range place {
					if !better(t, worth, rows[last], rows[place], w) {
						t.Error(worth, rows[last], rows[place], w)
					}
				}
			}
		}
	}
}

// A greater threshold has no greater score.
func TestAGreaterThreshold(t *testing.T) {
	worths, weights := tasks()
	for _, worth := range worths {
		for _, w := range weights {
			for _, ks := range lists(3, 1, 2) {
				for place := range ks {
					greater := slices.Clone(ks)
					greater[place]++
					if was, is := score(t, worth, ks, w), score(t, worth, greater, w); is > was {
						t.Error(worth, ks, place, w, was, is)
					}
					if better(t, worth, greater, ks, w) {
						t.Error(worth, ks, place, w)
					}
				}
			}
		}
	}
	w := slices.Concat(fall(100, 65536), fall(154, 65436))
	for k := 1; k < 255; k++ {
		if score(t, []int{1048576}, []int{k + 1}, w) > score(t, []int{1048576}, []int{k}, w) {
			t.Error(k)
		}
	}
}

// With even weights all thresholds have one score; the lesser ones are better.
func TestEvenWeights(t *testing.T) {
	for _, n := range []int{1, 2, 3, 100, 255} {
		w, e := weigh.Even(n)
		if e != api.OK {
			t.Error(n, e)
		}
		for _, worths := range [][]int{{2, 1, 3}, {0, 0, 0}, {1048576, 1048576, 1048576}} {
			all := 65536 * (worths[0] + worths[1] + worths[2])
			rows := lists(3, 1, (n+1)/2, n)
			for _, ks := range rows {
				if s := score(t, worths, ks, w); s != all {
					t.Error(n, worths, ks, s)
				}
				for _, other := range rows {
					if is := better(t, worths, ks, other, w); is != (slices.Compare(ks, other) < 0) {
						t.Error(n, worths, ks, other, is)
					}
				}
			}
		}
	}
}
