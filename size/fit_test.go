package size_test

import (
	"math"
	"slices"
	"testing"

	"hourglass/api"
	"hourglass/size"
)

// P11.2

// thresholds are all rows of so many numbers from 1 to n, none below the one ahead.
func thresholds(n, many int) [][]int {
	out := [][]int{nil}
	for range many {
		var longer [][]int
		for _, ks := range out {
			least := 1
			if len(ks) > 0 {
				least = ks[len(ks)-1]
			}
			for k := least; k <= n; k++ {
				longer = append(longer, append(slices.Clone(ks), k))
			}
		}
		out = longer
	}
	return out
}

// lists are all rows of so many of some numbers.
func lists(many int, numbers ...int) [][]int {
	out := [][]int{nil}
	for range many {
		var longer [][]int
		for _, row := range out {
			for _, number := range numbers {
				longer = append(longer, append(slices.Clone(row), number))
			}
		}
		out = longer
	}
	return out
}

// can says whether some thresholds fit, by asking them all.
func can(b size.Bounds, lens []int) bool {
	if !rightBounds(b) || len(lens) == 0 || len(lens) > 8 {
		return false
	}
	return slices.ContainsFunc(thresholds(b.N, len(lens)), func(ks []int) bool { return fits(b, lens, ks) })
}

// tried asks whether thresholds fit.
func tried(t *testing.T, b size.Bounds, lens, ks []int) {
	t.Helper()
	if is, want := size.Fits(b, lens, ks), fits(b, lens, ks); is != want {
		t.Errorf("Fits(%v, %v, %v): %v", b, lens, ks, is)
	}
}

// small are bounds of few datagrams, about where frames of few layers begin and cease to fit.
func small() []size.Bounds {
	var out []size.Bounds
	for n := 1; n <= 4; n++ {
		for _, mtu := range []int{64, 70} {
			for each := 20; each <= 72; each += 2 {
				out = append(out, size.Bounds{N: n, MTU: mtu, Budget: each * n}, size.Bounds{N: n, MTU: mtu, Budget: each*n + n - 1})
			}
		}
	}
	return out
}

func TestFitsThatAreWrittenOut(t *testing.T) {
	b := size.Bounds{N: 4, MTU: 64, Budget: 200}
	for i, x := range []struct {
		lens, ks []int
		is       bool
	}{
		{[]int{40, 60}, []int{4, 4}, true}, {[]int{44, 60}, []int{4, 4}, true}, {[]int{45, 60}, []int{4, 4}, false}, {[]int{40, 60}, []int{3, 4}, false}, {[]int{36, 60}, []int{3, 4}, false}, {[]int{33, 60}, []int{3, 4}, true}, {[]int{34, 60}, []int{3, 4}, false},
		{[]int{0}, []int{1}, true}, {[]int{29}, []int{1}, true}, {[]int{30}, []int{1}, false}, {[]int{30}, []int{2}, true}, {[]int{58}, []int{2}, true}, {[]int{59}, []int{2}, false}, {[]int{116}, []int{4}, true}, {[]int{117}, []int{4}, false},
		{[]int{1, 1}, []int{0, 1}, false}, {[]int{1, 1}, []int{1, 0}, false}, {[]int{1, 1}, []int{1, 1}, true}, {[]int{1, 1}, []int{1, 4}, true}, {[]int{1, 1}, []int{4, 4}, true}, {[]int{1, 1}, []int{4, 5}, false}, {[]int{1, 1}, []int{5, 5}, false}, {[]int{1, 1}, []int{2, 1}, false}, {[]int{1, 1}, []int{-1, 1}, false}, {[]int{1, 1}, []int{1, -1}, false},
		{[]int{1, 1, 1}, []int{1, 3, 2}, false}, {[]int{1, 1, 1}, []int{1, 3, 3}, true}, {[]int{1, 1, 1}, []int{3, 1, 3}, false},
		{nil, nil, false}, {[]int{}, []int{}, false}, {nil, []int{1}, false}, {[]int{1}, nil, false}, {[]int{1}, []int{1, 1}, false}, {[]int{1, 1}, []int{1}, false},
		{[]int{-1}, []int{1}, false}, {[]int{65535}, []int{4}, false}, {[]int{65536}, []int{4}, false}, {[]int{-4, 4}, []int{4, 4}, false},
		{make([]int, 8), slices.Repeat([]int{1}, 8), true}, {make([]int, 9), slices.Repeat([]int{1}, 9), false}, {slices.Repeat([]int{1}, 8), slices.Repeat([]int{1}, 8), true}, {slices.Repeat([]int{5}, 8), slices.Repeat([]int{4}, 8), false},
	} {
		if is := size.Fits(b, x.lens, x.ks); is != x.is {
			t.Error(i, is)
		}
		tried(t, b, x.lens, x.ks)
	}
}

func TestCanThatIsWrittenOut(t *testing.T) {
	b := size.Bounds{N: 4, MTU: 64, Budget: 200}
	for i, x := range []struct {
		lens []int
		is   bool
	}{
		{[]int{40, 60}, true}, {[]int{44, 60}, true}, {[]int{45, 60}, false}, {[]int{0}, true}, {[]int{116}, true}, {[]int{117}, false}, {nil, false}, {[]int{}, false}, {[]int{-1}, false}, {[]int{4, -1}, false}, {[]int{65535}, false}, {[]int{65536}, false},
		{make([]int, 8), true}, {make([]int, 9), false}, {[]int{0, 0, 0, 0, 0, 0, 0, 32}, true}, {[]int{0, 0, 0, 0, 0, 0, 0, 33}, false}, {slices.Repeat([]int{4}, 8), true}, {slices.Repeat([]int{5}, 8), false}, {[]int{1, 1, 1, 1, 1, 1, 1, 2}, true}, {[]int{1, 1, 1, 1, 1, 1, 1, 5}, false},
	} {
		if is := size.Can(b, x.lens...); is != x.is {
			t.Error(i, is)
		}
	}
	wide := size.Bounds{N: 255, MTU: 1500, Budget: 1 << 19}
	if !size.Can(wide, 65535) || !size.Can(wide, slices.Repeat([]int{65535}, 5)...) || size.Can(wide, slices.Repeat([]int{65535}, 6)...) || size.Can(wide, 65536) {
		t.Error("wide")
	}
}

// A datagram of just MTU bytes fits, one more does not, whatever the budget.
func TestJustTheDatagram(t *testing.T) {
	for mtu := 64; mtu <= 1500; mtu++ {
		b := size.Bounds{N: 3, MTU: mtu, Budget: 1 << 19}
		edge(t, b, mtu-21, 1)
		edge(t, b, mtu-21, 2)
		edge(t, b, mtu-21, 3)
	}
}

// A frame of just Budget bytes fits, one more for one of its datagrams does not; a budget that is one byte less has no room for it.
func TestJustTheFrame(t *testing.T) {
	for n := 1; n <= 255; n++ {
		for _, each := range []int{22, 63, 64, 1000, 1500} {
			b := size.Bounds{N: n, MTU: 1500, Budget: n * each}
			if !rightBounds(b) {
				continue
			}
			edge(t, b, each-21, 1)
			edge(t, b, each-21, n)
			b.Budget--
			edge(t, b, each-22, 1)
			edge(t, b, each-22, n)
		}
	}
}

// edge asks of one layer, whose stripes have at most so many bytes.
func edge(t *testing.T, b size.Bounds, left, k int) {
	t.Helper()
	if long := left * k; long <= 65535 && !size.Fits(b, []int{long}, []int{k}) {
		t.Error(b, left, k, "fits")
	}
	if long := left*k + 1; size.Fits(b, []int{long}, []int{k}) {
		t.Error(b, left, k, "does not fit")
	}
	if got, e := size.Room(b, 1); got != left || e != api.OK {
		t.Error(b, left, got, e)
	}
	if long := left * b.N; long <= 65535 && (!size.Can(b, long) || size.Can(b, long+1)) {
		t.Error(b, left, "can")
	}
}

func TestSmallFrames(t *testing.T) {
	for _, b := range small() {
		for many := range 4 {
			for _, lens := range lists(many, -1, 0, 7, 40) {
				if is, want := size.Can(b, lens...), can(b, lens); is != want {
					t.Errorf("Can(%v, %v): %v", b, lens, is)
				}
				for _, ks := range thresholds(b.N, many) {
					tried(t, b, lens, ks)
				}
			}
		}
	}
}

func TestThresholdsThatAreNone(t *testing.T) {
	for _, b := range []size.Bounds{{N: 1, MTU: 64, Budget: 200}, {N: 3, MTU: 64, Budget: 120}, {N: 3, MTU: 1500, Budget: 1 << 19}, {N: 255, MTU: 1500, Budget: 1 << 19}} {
		numbers := []int{-1, 0, 1, 2, b.N - 1, b.N, b.N + 1}
		for many := 1; many <= 3; many++ {
			for _, ks := range lists(many, numbers...) {
				tried(t, b, []int{5, 0, 9}[:many], ks)
				tried(t, b, []int{5, 0, 9}, ks)
				tried(t, b, []int{5}, ks)
			}
		}
	}
	b, lens := size.Bounds{N: 100, MTU: 1500, Budget: 1 << 19}, []int{100, 101, 0, 999, 1, 60, 71, 5}
	for place := range lens {
		for _, k := range slices.Concat(wrongKs, []int{1, 9, 10, 11, 19, 20, 35, 79, 80, 81, 99, 100, 101, 255}) {
			ks := []int{10, 20, 30, 40, 50, 60, 70, 80}
			ks[place] = k
			tried(t, b, lens, ks)
			tried(t, b, lens[:place+1], ks[:place+1])
		}
	}
}

func TestLengthsAtEachPlace(t *testing.T) {
	b := size.Bounds{N: 255, MTU: 1500, Budget: 1 << 19}
	for many := 1; many <= 8; many++ {
		for place := range many {
			for _, long := range wrongLengths {
				lens := slices.Repeat([]int{500}, many)
				lens[place] = long
				if size.Can(b, lens...) || size.Fits(b, lens, slices.Repeat([]int{255}, many)) || size.Fits(b, lens, slices.Repeat([]int{1}, many)) {
					t.Error(many, place, long)
				}
			}
			for _, long := range []int{0, 1, 254, 255, 256, 65534, 65535} {
				lens := slices.Repeat([]int{500}, many)
				lens[place] = long
				if !size.Can(b, lens...) {
					t.Error(many, place, long)
				}
				for _, k := range []int{1, 2, 100, 254, 255} {
					tried(t, b, lens, slices.Repeat([]int{k}, many))
				}
			}
		}
	}
}

// However great the numbers are, no sum of them is one that fits.
func TestTheGreatestNumbers(t *testing.T) {
	wide := size.Bounds{N: 255, MTU: 1500, Budget: 1 << 19}
	for _, number := range far {
		for many := 1; many <= 9; many++ {
			l := slices.Repeat([]int{number}, many)
			if size.Can(wide, l...) || size.Fits(wide, l, l) || size.Fits(wide, make([]int, many), l) || size.Fits(wide, l, slices.Repeat([]int{255}, many)) {
				t.Error(number, many)
			}
			none(t, size.Bounds{N: number, MTU: 1500, Budget: 1 << 19})
		}
	}
	for _, pair := range [][]int{{math.MaxInt, math.MinInt}, {math.MinInt, math.MaxInt}, {1 << 62, 1 << 62}, {-5, 10}, {10, -5}} {
		if size.Can(wide, pair...) || size.Fits(wide, pair, []int{1, 1}) || size.Fits(wide, []int{1, 1}, pair) {
			t.Error(pair)
		}
	}
}

func TestAsManyLayers(t *testing.T) {
	b := size.Bounds{N: 9, MTU: 1500, Budget: 1 << 19}
	for _, many := range []int{0, 1, 2, 3, 4, 5, 6, 7, 8, 9, 10, 16, 255, 256, 257, 264, 65536, 65537} {
		lens, want := make([]int, many), many >= 1 && many <= 8
		if size.Can(b, lens...) != want || size.Fits(b, lens, slices.Repeat([]int{1}, many)) != want || size.Fits(b, lens, slices.Repeat([]int{9}, many)) != want {
			t.Error(many)
		}
		for _, other := range []int{many - 1, many + 1, 0, 1, 8, 9} {
			if other >= 0 && other != many && size.Fits(b, lens, slices.Repeat([]int{1}, other)) {
				t.Error(many, other)
			}
		}
	}
}

// P11.3

// Thresholds fit just if widths have room.
func TestWhatFitsHasRoom(t *testing.T) {
	for _, b := range small() {
		for many := 1; many <= 3; many++ {
			left, e := size.Room(b, many)
			for _, lens := range lists(many, 0, 1, 11, 29, 80) {
				for _, ks := range thresholds(b.N, many) {
					sum := 0
					for place, k := range ks {
						sum += width(lens[place], k)
					}
					if is := size.Fits(b, lens, ks); e != api.OK || is != (sum <= left) {
						t.Error(b, lens, ks, sum, left, e, is)
					}
				}
			}
		}
	}
}

// What fits is of a size that is at most MTU, and of which N times are at most Budget.
func TestWhatFitsIsOfThatSize(t *testing.T) {
	for _, b := range ends() {
		for _, k := range []int{1, (b.N + 1) / 2, b.N} {
			for _, long := range []int{0, 1, 42, 43, 44, 80, 1000, 1478, 1479, 1480, 65535} {
				for many := 1; many <= 8; many++ {
					one, e := size.Of(b.N, slices.Repeat(rows(k, long), many))
					is := size.Fits(b, slices.Repeat([]int{long}, many), slices.Repeat([]int{k}, many))
					if e != api.OK || is != (one <= b.MTU && one*b.N <= b.Budget) {
						t.Error(b, k, long, many, one, e, is)
					}
				}
			}
		}
	}
}

// Some fit, just if those fit that are all N.
func TestSomeFitIfTheGreatestDo(t *testing.T) {
	for _, b := range slices.Concat(small(), ends()) {
		for many := 1; many <= 8; many++ {
			greatest := slices.Repeat([]int{b.N}, many)
			for _, long := range []int{0, 1, 5, 29, b.N, 20 * b.N, 43 * b.N, 43*b.N + 1, 1479 * b.N, 65535} {
				lens := slices.Repeat([]int{1}, many)
				lens[many/2] = long
				if size.Can(b, lens...) != size.Fits(b, lens, greatest) {
					t.Error(b, lens)
				}
			}
		}
	}
}

// What fits, fits with greater thresholds, a greater MTU, a greater Budget, and shorter layers.
func TestWhatFitsFitsWithMore(t *testing.T) {
	for _, b := range small() {
		for _, lens := range lists(2, 0, 13, 40) {
			for _, ks := range thresholds(b.N, 2) {
				if !size.Fits(b, lens, ks) {
					continue
				}
				more(t, size.Bounds{N: b.N, MTU: b.MTU + 1, Budget: b.Budget}, lens, ks)
				more(t, size.Bounds{N: b.N, MTU: 1500, Budget: b.Budget}, lens, ks)
				more(t, size.Bounds{N: b.N, MTU: b.MTU, Budget: b.Budget + 1}, lens, ks)
				more(t, size.Bounds{N: b.N, MTU: b.MTU, Budget: 1 << 19}, lens, ks)
				more(t, b, []int{lens[0] / 2, lens[1]}, ks)
				more(t, b, []int{lens[0], lens[1] / 2}, ks)
				more(t, b, []int{lens[0], max(lens[1]-1, 0)}, ks)
				more(t, b, lens, []int{ks[0], min(ks[1]+1, b.N)})
				more(t, b, lens, []int{ks[1], ks[1]})
			}
		}
	}
}

func more(t *testing.T, b size.Bounds, lens, ks []int) {
	t.Helper()
	if !size.Fits(b, lens, ks) || !size.Can(b, lens...) {
		t.Error(b, lens, ks)
	}
}
