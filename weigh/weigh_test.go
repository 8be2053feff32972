package weigh_test

import (
	"math"
	"slices"
	"testing"

	"hourglass/api"
	"hourglass/weigh"
)

// The calls, as the chapter has them.
var (
	_ func(n int, w []int) bool                          = weigh.Right
	_ func(n int) ([]int, api.Errno)                     = weigh.Even
	_ func(worths, ks, w []int) (int, api.Errno)         = weigh.Score
	_ func(worths, ks, other, w []int) (bool, api.Errno) = weigh.Better
)

// What is asked is held against these, which know no package but the words of the chapter.

// rightWeights says whether numbers are weights, word by word.
func rightWeights(n int, w []int) bool {
	if n < 1 || n > 255 || len(w) != n+1 {
		return false
	}
	for place, weight := range w {
		if weight < 0 || weight > 65536 || place > 0 && weight > w[place-1] {
			return false
		}
	}
	return true
}

// scored says whether there is a score, word by word.
func scored(worths, ks, w []int) bool {
	if !rightWeights(len(w)-1, w) || len(ks) != len(worths) || len(ks) > 8 {
		return false
	}
	for place, k := range ks {
		if k < 1 || k > len(w)-1 || worths[place] < 0 || worths[place] > 1048576 {
			return false
		}
	}
	return true
}

// worth is the score, each worth by its weight, bit by bit.
func worth(worths, ks, w []int) int {
	sum := 0
	for place, number := range worths {
		for bit := 16; bit >= 0; bit-- {
			if w[ks[place]]>>bit&1 == 1 {
				sum += number << bit
			}
		}
	}
	return sum
}

// order is 1 if thresholds are better than others, -1 if those are better, 0 if they are the same.
func order(worths, ks, other, w []int) int {
	mine, theirs := worth(worths, ks, w), worth(worths, other, w)
	switch {
	case mine > theirs:
		return 1
	case mine < theirs:
		return -1
	}
	return slices.Compare(other, ks)
}

// far are numbers that are below or above all that may be; among them such as are right ones when they are cut.
var far = []int{-2, -255, -256, -65535, -65536, -65537, -1 << 20, 1<<20 + 1, 1<<20 + 2, 1 << 21, 1 << 24, 1<<31 - 1, 1 << 31, 1<<31 + 1, 1 << 32, 1<<32 + 1, 1<<32 + 2, 1<<32 + 255, 1<<32 + 65536, 1 - 1<<32, 2 - 1<<32, -1 << 31, 1 << 62, math.MaxInt - 1, math.MaxInt, math.MinInt, math.MinInt + 1, math.MinInt + 2}

var (
	wrongNs      = slices.Concat(far, []int{-1, 0, 256, 257, 511, 512, 65536, 65537, 1 << 20})
	wrongWeights = slices.Concat(far, []int{-1, 65537, 65538, 131072, 1 << 20})
	wrongWorths  = slices.Concat(far, []int{-1})
)

// fall are n + 1 weights, each one less than the one ahead, from a first one on.
func fall(n, first int) []int {
	w := make([]int, n+1)
	for place := range w {
		w[place] = first - place
	}
	return w
}

// lists are all rows of so many of some numbers.
func lists(many int, numbers ...int) [][]int {
	out := [][]int{nil}
	for range many {
		var longer [][]int
		for _, row := range out {
			for _, number := range numbers {
				longer = append(longer, append(slices.Clone(row), number))
			}
		}
		out = longer
	}
	return out
}

// span are all numbers from one to another.
func span(from, to int) []int {
	var out []int
	for number := from; number <= to; number++ {
		out = append(out, number)
	}
	return out
}

func TestLimitsAndErrorsByTheirNumbers(t *testing.T) {
	if api.MaxN != 255 || api.One != 65536 || api.MaxWorth != 1048576 || api.MaxLayers != 8 || api.OK != 0 || api.ErrArg != 2 {
		t.Error(api.MaxN, api.One, api.MaxWorth, api.MaxLayers, api.OK, api.ErrArg)
	}
}

func TestExample(t *testing.T) {
	if s, e := weigh.Score([]int{3, 5}, []int{1, 2}, []int{4, 4, 2}); s != 22 || e != api.OK {
		t.Error(s, e)
	}
}

// P12.1

// judged asks whether numbers are weights.
func judged(t *testing.T, n int, w []int) {
	t.Helper()
	if is, want := weigh.Right(n, w), rightWeights(n, w); is != want {
		t.Errorf("Right(%d, %v): %v", n, w, is)
	}
}

func TestRightThatIsWrittenOut(t *testing.T) {
	for i, x := range []struct {
		n  int
		w  []int
		is bool
	}{
		{2, []int{4, 4, 2}, true}, {1, []int{65536, 65536}, true}, {1, []int{65536, 0}, true}, {1, []int{0, 0}, true}, {1, []int{1, 0}, true}, {1, []int{65535, 65535}, true}, {3, []int{9, 5, 5, 3}, true}, {3, []int{3, 2, 1, 0}, true},
		{1, []int{0, 1}, false}, {1, []int{65535, 65536}, false}, {2, []int{4, 5, 2}, false}, {2, []int{4, 2, 3}, false}, {3, []int{9, 5, 6, 3}, false}, {3, []int{9, 5, 5, 6}, false}, {3, []int{5, 9, 5, 3}, false}, {2, []int{4, 2, 4}, false},
		{1, []int{-1, -1}, false}, {1, []int{1, -1}, false}, {1, []int{0, -1}, false}, {1, []int{-1, 0}, false}, {2, []int{1, -1, 0}, false}, {1, []int{65537, 65537}, false}, {1, []int{65537, 0}, false}, {1, []int{65536, 65537}, false}, {2, []int{65537, 65536, 65536}, false},
		{0, nil, false}, {0, []int{}, false}, {0, []int{1}, false}, {0, []int{1, 1}, false}, {1, nil, false}, {1, []int{}, false}, {1, []int{1}, false}, {1, []int{1, 1, 1}, false}, {2, []int{4, 4}, false}, {2, []int{4, 4, 2, 1}, false},
		{-1, nil, false}, {-1, []int{}, false}, {-1, []int{1}, false}, {-2, []int{1}, false}, {math.MaxInt, []int{1, 1}, false}, {math.MinInt, []int{1, 1}, false}, {math.MaxInt, nil, false}, {math.MinInt, nil, false},
		{255, make([]int, 256), true}, {255, make([]int, 255), false}, {255, make([]int, 257), false}, {254, make([]int, 255), true}, {256, make([]int, 257), false}, {256, make([]int, 256), false}, {257, make([]int, 258), false},
	} {
		if is := weigh.Right(x.n, x.w); is != x.is {
			t.Error(i, is)
		}
		judged(t, x.n, x.w)
	}
}

func TestRightOfAllRowsOfFewNumbers(t *testing.T) {
	for many := range 5 {
		for _, w := range lists(many, -1, 0, 1, 2, 65535, 65536, 65537) {
			for n := many - 3; n <= many+1; n++ {
				judged(t, n, w)
			}
		}
	}
}

func TestRightOfAsManyWeights(t *testing.T) {
	for many := range 300 {
		w := slices.Repeat([]int{7}, many)
		for _, n := range slices.Concat(span(many-4, many+3), wrongNs, []int{1, 2, 254, 255}) {
			judged(t, n, w)
		}
		judged(t, many-1, fall(many-1, 65536))
	}
	for _, many := range []int{512, 513, 65536, 65537, 65538} {
		judged(t, many-1, make([]int, many))
		judged(t, 255, make([]int, many))
		judged(t, 1, make([]int, many))
	}
}

func TestRightAtEachPlace(t *testing.T) {
	for _, n := range []int{1, 2, 3, 100, 254, 255} {
		for place := range n + 1 {
			for _, first := range []int{255, 60000, 65535, 65536} {
				w := fall(n, first)
				weight := w[place]
				for _, number := range slices.Concat(wrongWeights, []int{0, weight - 1, weight + 1, weight + 2, 65535, 65536}) {
					w[place] = number
					judged(t, n, w)
				}
			}
			w := slices.Repeat([]int{5}, n+1)
			for number := 3; number <= 7; number++ {
				w[place] = number
				judged(t, n, w)
			}
		}
	}
}

func TestEvenOfEachN(t *testing.T) {
	for n := 1; n <= 255; n++ {
		w, e := weigh.Even(n)
		if e != api.OK || len(w) != n+1 || !rightWeights(n, w) || !weigh.Right(n, w) {
			t.Error(n, w, e)
		}
		for place, weight := range w {
			if weight != 65536 {
				t.Error(n, place, weight)
			}
		}
	}
}

func TestEvenOfNoSuchN(t *testing.T) {
	for _, n := range slices.Concat(wrongNs, span(-300, 0), span(256, 600)) {
		if w, e := weigh.Even(n); w != nil || e != api.ErrArg {
			t.Error(n, w, e)
		}
	}
}
