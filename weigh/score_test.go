package weigh_test

import (
	"math"
	"slices"
	"testing"

	"hourglass/api"
	"hourglass/weigh"
)

// P12.2

// counted asks the score.
func counted(t *testing.T, worths, ks, w []int) {
	t.Helper()
	want, e := 0, api.ErrArg
	if scored(worths, ks, w) {
		want, e = worth(worths, ks, w), api.OK
	}
	if got, f := weigh.Score(worths, ks, w); got != want || f != e {
		t.Errorf("Score(%v, %v, %v): %d %d, not %d %d", worths, ks, w, got, f, want, e)
	}
}

func TestScoresThatAreWrittenOut(t *testing.T) {
	w, eight := []int{9, 7, 5, 3, 2, 2, 1, 1, 0}, []int{1, 2, 3, 4, 5, 6, 7, 8}
	for i, x := range []struct {
		worths, ks, w []int
		score         int
		e             api.Errno
	}{
		{[]int{3, 5}, []int{1, 2}, []int{4, 4, 2}, 22, api.OK}, {[]int{3, 5}, []int{2, 1}, []int{4, 4, 2}, 26, api.OK}, {[]int{3, 5}, []int{2, 2}, []int{4, 4, 2}, 16, api.OK}, {[]int{3, 5}, []int{1, 1}, []int{4, 4, 2}, 32, api.OK}, {[]int{5, 3}, []int{1, 2}, []int{4, 4, 2}, 26, api.OK},
		{[]int{3}, []int{1}, []int{9, 4}, 12, api.OK}, {[]int{0}, []int{1}, []int{9, 4}, 0, api.OK}, {[]int{3}, []int{1}, []int{9, 0}, 0, api.OK}, {[]int{1048576}, []int{1}, []int{65536, 65536}, 68719476736, api.OK}, {[]int{1048576}, []int{1}, []int{65536, 1}, 1048576, api.OK}, {[]int{1}, []int{1}, []int{65536, 65535}, 65535, api.OK},
		{nil, nil, []int{4, 4, 2}, 0, api.OK}, {[]int{}, []int{}, []int{4, 4, 2}, 0, api.OK}, {nil, []int{}, []int{4, 4}, 0, api.OK},
		{eight, eight, w, 7 + 10 + 9 + 8 + 10 + 6 + 7, api.OK}, {eight, []int{8, 7, 6, 5, 4, 3, 2, 1}, w, 0 + 2 + 3 + 8 + 10 + 18 + 35 + 56, api.OK}, {slices.Repeat([]int{1048576}, 8), slices.Repeat([]int{1}, 8), []int{65536, 65536}, 549755813888, api.OK},
		{slices.Repeat([]int{1}, 9), slices.Repeat([]int{1}, 9), w, 0, api.ErrArg}, {make([]int, 9), slices.Repeat([]int{1}, 9), w, 0, api.ErrArg},
		{[]int{3}, []int{0}, []int{4, 4, 2}, 0, api.ErrArg}, {[]int{3}, []int{3}, []int{4, 4, 2}, 0, api.ErrArg}, {[]int{3}, []int{-1}, []int{4, 4, 2}, 0, api.ErrArg}, {[]int{0}, []int{3}, []int{4, 4, 2}, 0, api.ErrArg}, {[]int{3, 5}, []int{1, 3}, []int{4, 4, 2}, 0, api.ErrArg}, {[]int{3, 5}, []int{0, 1}, []int{4, 4, 2}, 0, api.ErrArg},
		{[]int{-1}, []int{1}, []int{4, 4, 2}, 0, api.ErrArg}, {[]int{1048577}, []int{1}, []int{4, 4, 2}, 0, api.ErrArg}, {[]int{1, -1}, []int{1, 1}, []int{4, 4, 2}, 0, api.ErrArg}, {[]int{1048577, 1}, []int{1, 1}, []int{4, 4, 2}, 0, api.ErrArg},
		{[]int{1, 2}, []int{1}, []int{4, 4, 2}, 0, api.ErrArg}, {[]int{1}, []int{1, 2}, []int{4, 4, 2}, 0, api.ErrArg}, {nil, []int{1}, []int{4, 4, 2}, 0, api.ErrArg}, {[]int{1}, nil, []int{4, 4, 2}, 0, api.ErrArg},
		{[]int{1}, []int{1}, []int{4, 5, 2}, 0, api.ErrArg}, {[]int{1}, []int{1}, []int{4, 2, 3}, 0, api.ErrArg}, {[]int{1}, []int{1}, []int{65537, 1}, 0, api.ErrArg}, {[]int{1}, []int{1}, []int{4, 4, -1}, 0, api.ErrArg}, {[]int{1}, []int{1}, []int{4}, 0, api.ErrArg}, {[]int{1}, []int{1}, nil, 0, api.ErrArg}, {[]int{1}, []int{1}, []int{}, 0, api.ErrArg}, {[]int{1}, []int{1}, make([]int, 257), 0, api.ErrArg}, {[]int{1}, []int{1}, make([]int, 256), 0, api.OK},
		{nil, nil, nil, 0, api.ErrArg}, {nil, nil, []int{4}, 0, api.ErrArg}, {nil, nil, []int{4, 5}, 0, api.ErrArg}, {nil, nil, make([]int, 257), 0, api.ErrArg}, {nil, nil, make([]int, 256), 0, api.OK},
	} {
		if s, e := weigh.Score(x.worths, x.ks, x.w); s != x.score || e != x.e {
			t.Error(i, s, e)
		}
		counted(t, x.worths, x.ks, x.w)
	}
}

func TestScoresOfFewLayers(t *testing.T) {
	for _, w := range [][]int{{4, 4, 2}, {65536, 65536, 65536}, {65536, 1, 0}, {0, 0, 0}, {9, 7, 5, 3}, {9, 9}, {9, 8}, {8, 9}, {9}, nil} {
		for many := range 4 {
			for _, ks := range lists(many, span(-1, 5)...) {
				for _, worths := range [][]int{{3, 5, 7}, {0, 0, 1}, {1048576, 1, 1048576}, {-1, 3, 5}, {3, 5, 1048577}} {
					counted(t, worths[:many], ks, w)
					counted(t, worths, ks, w)
					counted(t, worths[:1], ks, w)
				}
			}
		}
	}
}

func TestScoresOfEachThreshold(t *testing.T) {
	for _, n := range []int{1, 2, 100, 254, 255} {
		for _, w := range [][]int{fall(n, 65536), fall(n, n), make([]int, n+1), slices.Repeat([]int{65536}, n+1)} {
			for k := -2; k <= 260; k++ {
				counted(t, []int{1048576}, []int{k}, w)
				counted(t, []int{3, 777, 1000}, []int{1, k, n}, w)
				counted(t, slices.Repeat([]int{1048575}, 8), slices.Repeat([]int{k}, 8), w)
			}
		}
	}
}

// The weight of 0 datagrams is in no score.
func TestTheFirstWeightDoesNotMatter(t *testing.T) {
	for first := 4; first <= 65536; first += 101 {
		if s, e := weigh.Score([]int{3, 5}, []int{1, 2}, []int{first, 4, 2}); s != 22 || e != api.OK {
			t.Error(first, s, e)
		}
	}
}

func TestAsManyLayers(t *testing.T) {
	w := fall(255, 65536)
	for _, many := range slices.Concat(span(0, 20), []int{255, 256, 257, 264, 65536, 65537}) {
		for _, other := range []int{many - 1, many, many + 1, 0, 1, 8, 9} {
			if other >= 0 {
				counted(t, make([]int, many), slices.Repeat([]int{1}, other), w)
				counted(t, slices.Repeat([]int{5}, many), slices.Repeat([]int{255}, other), w)
			}
		}
	}
}

func TestWrongNumbersAtEachPlace(t *testing.T) {
	w := fall(100, 65536)
	for many := 1; many <= 8; many++ {
		for place := range many {
			worths, ks := span(40, 39+many), span(91, 90+many)
			for _, k := range slices.Concat(wrongNs, []int{1, 2, 50, 99, 100, 101, 102, 255}) {
				ks[place] = k
				counted(t, worths, ks, w)
			}
			ks[place] = 5
			for _, number := range slices.Concat(wrongWorths, []int{0, 1, 65536, 65537, 1<<20 - 1, 1 << 20}) {
				worths[place] = number
				counted(t, worths, ks, w)
			}
		}
	}
}

// Weights are right or wrong whether a threshold has them or not.
func TestWrongWeightsAtEachPlace(t *testing.T) {
	for _, n := range []int{1, 2, 10, 255} {
		for place := range n + 1 {
			for _, number := range slices.Concat(wrongWeights, []int{0, 59999, 60000, 60001, 65536}) {
				w := slices.Repeat([]int{60000}, n+1)
				w[place] = number
				counted(t, nil, nil, w)
				counted(t, []int{7}, []int{1}, w)
				counted(t, []int{7, 9}, []int{n, 1}, w)
			}
		}
	}
}

// However great the numbers are, there is no sum of them.
func TestTheGreatestNumbers(t *testing.T) {
	for _, number := range []int{math.MaxInt, math.MaxInt - 1, 1 << 62, 1 << 47, math.MinInt, math.MinInt + 1} {
		for many := 1; many <= 9; many++ {
			row, ones := slices.Repeat([]int{number}, many), slices.Repeat([]int{1}, many)
			for _, x := range [][3][]int{{row, ones, {65536, 65536}}, {ones, row, {65536, 65536}}, {ones, ones, {number, 1}}, {ones, ones, {number, number}}, {ones, ones, {1, number}}, {row, row, row}} {
				if s, e := weigh.Score(x[0], x[1], x[2]); s != 0 || e != api.ErrArg {
					t.Error(number, many, s, e)
				}
				if is, e := weigh.Better(x[0], x[1], ones, x[2]); is || e != api.ErrArg {
					t.Error(number, many, is, e)
				}
				if is, e := weigh.Better(x[0], ones, x[1], x[2]); is || e != api.ErrArg {
					t.Error(number, many, is, e)
				}
			}
		}
	}
}
