package weigh_test

import (
	"slices"
	"testing"

	"hourglass/api"
	"hourglass/weigh"
)

// P12.3

// held asks whether thresholds are better than others.
func held(t *testing.T, worths, ks, other, w []int) {
	t.Helper()
	want, e := false, api.ErrArg
	if scored(worths, ks, w) && scored(worths, other, w) {
		want, e = order(worths, ks, other, w) > 0, api.OK
	}
	if got, f := weigh.Better(worths, ks, other, w); got != want || f != e {
		t.Errorf("Better(%v, %v, %v, %v): %v %d, not %v %d", worths, ks, other, w, got, f, want, e)
	}
}

func TestBetterThatIsWrittenOut(t *testing.T) {
	worths, w := []int{2, 1}, []int{9, 5, 5, 3}
	for i, x := range []struct {
		ks, other []int
		is        bool
	}{
		{[]int{1, 2}, []int{1, 3}, true}, {[]int{1, 3}, []int{1, 2}, false}, {[]int{1, 3}, []int{3, 1}, true}, {[]int{3, 1}, []int{1, 3}, false}, {[]int{2, 3}, []int{3, 1}, true}, {[]int{3, 1}, []int{2, 3}, false},
		{[]int{1, 2}, []int{2, 2}, true}, {[]int{2, 2}, []int{1, 2}, false}, {[]int{2, 1}, []int{1, 2}, false}, {[]int{1, 2}, []int{2, 1}, true}, {[]int{2, 1}, []int{2, 2}, true}, {[]int{2, 2}, []int{2, 1}, false}, {[]int{3, 1}, []int{3, 2}, true}, {[]int{3, 2}, []int{3, 1}, false},
		{[]int{1, 2}, []int{1, 2}, false}, {[]int{1, 1}, []int{1, 1}, false}, {[]int{3, 3}, []int{3, 3}, false}, {[]int{3, 2}, []int{3, 2}, false},
	} {
		if is, e := weigh.Better(worths, x.ks, x.other, w); is != x.is || e != api.OK {
			t.Error(i, is, e)
		}
		held(t, worths, x.ks, x.other, w)
	}
	if is, e := weigh.Better(nil, nil, nil, w); is || e != api.OK {
		t.Error(is, e)
	}
}

func TestBetterOfWrongThresholds(t *testing.T) {
	worths, right, w := []int{2, 1}, []int{1, 2}, []int{9, 5, 5, 3}
	wrong := [][]int{nil, {}, {1}, {1, 2, 3}, {0, 1}, {1, 0}, {4, 1}, {1, 4}, {-1, 1}, {1, -1}, slices.Repeat([]int{1}, 9)}
	for _, number := range wrongNs {
		wrong = append(wrong, []int{number, 1}, []int{1, number}, []int{number, number})
	}
	for i, ks := range wrong {
		none(t, i, worths, ks, right, w)
		none(t, i, worths, right, ks, w)
		none(t, i, worths, ks, ks, w)
		none(t, i, worths, ks, wrong[len(wrong)-1-i], w)
	}
}

// none asks what there is no answer to.
func none(t *testing.T, i int, worths, ks, other, w []int) {
	t.Helper()
	if is, e := weigh.Better(worths, ks, other, w); is || e != api.ErrArg {
		t.Error(i, is, e)
	}
}

func TestBetterOfWrongWorthsAndWeights(t *testing.T) {
	ks, other, w := []int{1, 2}, []int{1, 3}, []int{9, 5, 5, 3}
	for i, worths := range [][]int{nil, {2}, {2, 1, 1}, {-1, 1}, {1, -1}, {1<<20 + 1, 1}, {1, 1<<20 + 1}, make([]int, 9)} {
		none(t, i, worths, ks, other, w)
		none(t, i, worths, other, ks, w)
	}
	for i, weights := range [][]int{nil, {}, {9}, {9, 5}, {5, 9, 5, 3}, {9, 5, 6, 3}, {9, 5, 5, 6}, {65537, 5, 5, 3}, {9, 5, 5, -1}, make([]int, 257)} {
		none(t, i, []int{2, 1}, ks, other, weights)
		none(t, i, []int{2, 1}, other, ks, weights)
		none(t, i, []int{2, 1}, ks, ks, weights)
	}
	for i, weights := range [][]int{nil, {9}, {5, 9}, {65537, 1}, {1, -1}, make([]int, 257)} {
		none(t, i, nil, nil, nil, weights)
	}
	for many := 9; many < 20; many++ {
		ones := slices.Repeat([]int{1}, many)
		none(t, many, ones, ones, ones, w)
	}
}

func TestBetterOfFewLayers(t *testing.T) {
	for _, w := range [][]int{{9, 5, 5, 3}, {9, 7, 5, 3}, {9, 9, 9, 9}, {0, 0, 0, 0}, {65536, 65536, 1, 0}, {4, 4, 2}} {
		for many := range 4 {
			rows := lists(many, span(0, 4)...)
			for _, worths := range [][]int{{2, 1, 3}, {0, 0, 0}, {1, 1, 1}, {0, 5, 0}, {1048576, 1048576, 1}, {-1, 1, 1}} {
				for _, ks := range rows {
					for _, other := range rows {
						held(t, worths[:many], ks, other, w)
					}
				}
			}
		}
	}
}

// Of the same score, the first place at which they are not the same counts, wherever it stands, and whatever stands behind it.
func TestTheSameScoreAtEachPlace(t *testing.T) {
	w := slices.Repeat([]int{77}, 256)
	for many := 1; many <= 8; many++ {
		worths := span(5, 4+many)
		for place := range many {
			for _, x := range [][2]int{{1, 2}, {1, 255}, {99, 100}, {254, 255}} {
				for _, y := range [][2]int{{50, 50}, {255, 1}, {1, 255}} {
					ks, other := slices.Repeat([]int{50}, many), slices.Repeat([]int{50}, many)
					for last := place + 1; last < many; last++ {
						ks[last], other[last] = y[0], y[1]
					}
					ks[place], other[place] = x[0], x[1]
					if is, e := weigh.Better(worths, ks, other, w); !is || e != api.OK {
						t.Error(ks, other, is, e)
					}
					if is, e := weigh.Better(worths, other, ks, w); is || e != api.OK {
						t.Error(other, ks, is, e)
					}
				}
			}
		}
	}
}

// A greater score counts ahead of lesser thresholds, be it greater by one alone.
func TestAScoreThatIsGreaterByOne(t *testing.T) {
	w := slices.Concat(slices.Repeat([]int{65536}, 200), slices.Repeat([]int{65535}, 56))
	for many := 2; many <= 8; many++ {
		worths := slices.Repeat([]int{1}, many)
		for place := 1; place < many; place++ {
			ks, other := slices.Repeat([]int{199}, many), slices.Repeat([]int{1}, many)
			other[place] = 200
			if is, e := weigh.Better(worths, ks, other, w); !is || e != api.OK {
				t.Error(ks, other, is, e)
			}
			if is, e := weigh.Better(worths, other, ks, w); is || e != api.OK {
				t.Error(other, ks, is, e)
			}
		}
	}
}
