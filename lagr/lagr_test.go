package lagr_test

import (
	"bytes"
	"math"
	"slices"
	"testing"

	"hourglass/api"
	"hourglass/lagr"
	"hourglass/poly"
	"hourglass/rows"
)

// What is asked of weights and values is held against these, which know no package but the words of the chapters.

// times is the product of two bytes.
func times(a, b byte) byte {
	p := byte(0)
	for ; b > 0; b >>= 1 {
		if b&1 == 1 {
			p ^= a
		}
		over := a&0x80 != 0
		a <<= 1
		if over {
			a ^= 0x1D
		}
	}
	return p
}

// dot is the sum of products; both are as long.
func dot(a, b []byte) byte {
	sum := byte(0)
	for i := range a {
		sum ^= times(a[i], b[i])
	}
	return sum
}

// value is the sum of each coefficient by the power of x to its place.
func value(p []byte, x byte) byte {
	sum, power := byte(0), byte(1)
	for _, c := range p {
		sum ^= times(c, power)
		power = times(power, x)
	}
	return sum
}

// valuesOf are a polynomial's at some bytes.
func valuesOf(p, at []byte) []byte {
	out := make([]byte, len(at))
	for i, x := range at {
		out[i] = value(p, x)
	}
	return out
}

// weigh asks whether weights are those of a byte, by their words: of each power, and so of any sum of such by bytes, they give its value.
func weigh(points []byte, at byte, weights []byte) bool {
	if len(weights) != len(points) {
		return false
	}
	powers, power := bytes.Repeat([]byte{1}, len(points)), byte(1)
	for range points {
		if dot(weights, powers) != power {
			return false
		}
		for i, x := range points {
			powers[i] = times(powers[i], x)
		}
		power = times(power, at)
	}
	return true
}

// some is a row of so many bytes, by a rule.
func some(size, seed int) []byte {
	out, state := make([]byte, size), uint32(seed)*2654435761+12345
	for i := range out {
		state = state*1664525 + 1013904223
		out[i] = byte(state >> 24)
	}
	return out
}

// unlike are so many bytes, at most 256, all unlike, in an order by a rule.
func unlike(size, seed int) []byte {
	out := count(256)
	for i, x := range some(256, seed) {
		out[i], out[x] = out[x], out[i]
	}
	return out[:size:size]
}

// count is the bytes 0, 1, and so on.
func count(n int) []byte {
	out := make([]byte, n)
	for i := range out {
		out[i] = byte(i)
	}
	return out
}

// spoil writes over all memory that came with a row.
func spoil(row []byte) {
	row = row[:cap(row)]
	for i := range row {
		row[i] ^= 0xFF
	}
}

// isUnit asks for 1 at the place k, and noughts else.
func isUnit(row []byte, size, k int) bool {
	want := make([]byte, size)
	want[k] = 1
	return bytes.Equal(row, want)
}

func same(a, b [][]byte) bool { return slices.EqualFunc(a, b, bytes.Equal) }

// sets are points: few and many, in order and not, with 0 and without.
func sets() [][]byte {
	all := [][]byte{
		{0}, {1}, {7}, {255}, {0, 1}, {1, 0}, {0, 255}, {254, 255}, {5, 3, 9}, {2, 4, 8, 16}, {255, 0, 128, 1, 127}, {9, 8, 7, 6, 5, 4, 3, 2, 1}, count(255), count(256)[1:],
	}
	for i, size := range []int{2, 3, 6, 17, 64, 128, 200, 254, 255} {
		all = append(all, unlike(size, i+1), unlike(size, i+50))
	}
	return all
}

// asked are bytes to ask of, by points: all of them of few ones; of many ones a few that are points, and all that are none.
func asked(points []byte) []byte {
	if len(points) < 20 {
		return count(256)
	}
	at := []byte{points[0], points[1], points[len(points)/2], points[len(points)-1]}
	for x := range 256 {
		if !bytes.Contains(points, []byte{byte(x)}) && len(at) < 12 {
			at = append(at, byte(x))
		}
	}
	return at
}

// twice are points in which a byte stands twice.
func twice() [][]byte {
	all := [][]byte{
		{0, 0}, {1, 1}, {255, 255}, {1, 2, 1}, {1, 1, 2}, {2, 1, 1}, {0, 3, 5, 0}, {4, 4, 4}, {1, 2, 1, 2}, {7, 0, 6, 0}, make([]byte, 70000), append(unlike(256, 3), 77), append(count(256), count(256)...),
	}
	for _, size := range []int{3, 20, 254, 255, 256} {
		for _, place := range [][2]int{{0, 1}, {0, size - 1}, {size - 2, size - 1}, {size / 2, size - 1}, {0, size / 2}} {
			points := unlike(size, size)
			points[place[1]] = points[place[0]]
			all = append(all, points)
		}
	}
	return all
}

func TestExamples(t *testing.T) {
	if w, e := lagr.Weights([]byte{0, 1}, 2); e != api.OK || !bytes.Equal(w, []byte{3, 2}) {
		t.Error("the weights of 2:", w, e)
	}
	if v, e := lagr.Value([]byte{0, 1}, []byte{5, 5}, 2); e != api.OK || v != 5 {
		t.Error("5 and 5 at 2:", v, e)
	}
	if l, e := lagr.Values([]byte{0, 1}, []byte{5, 4}, []byte{0, 1, 2, 3}); e != api.OK || !bytes.Equal(l, []byte{5, 4, 7, 6}) {
		t.Error("5 and 4 at 0 to 3:", l, e)
	}
}

// P4.1

func TestWeights(t *testing.T) {
	for i, points := range sets() {
		for _, at := range asked(points) {
			if w, e := lagr.Weights(points, at); e != api.OK || !weigh(points, at, w) {
				t.Error(i, points, at, w, e)
			}
		}
	}
}

// Each weight by itself, of two points: the gap of the byte to the other one, by the inverse of the gap of both.
func TestWeightsOfTwoPoints(t *testing.T) {
	for a := range 256 {
		for b := range 256 {
			if a == b {
				continue
			}
			at := byte(a*7 + b*13)
			w, e := lagr.Weights([]byte{byte(a), byte(b)}, at)
			if e != api.OK || len(w) != 2 {
				t.Fatal(a, b, w, e)
			}
			gap := byte(a) ^ byte(b)
			if times(w[0], gap) != at^byte(b) || times(w[1], gap) != at^byte(a) {
				t.Fatal(a, b, at, w)
			}
		}
	}
}

func TestWeightsOfAPoint(t *testing.T) {
	for i, points := range sets() {
		for k, at := range points {
			if w, e := lagr.Weights(points, at); e != api.OK || !isUnit(w, len(points), k) {
				t.Error(i, k, w, e)
			}
		}
	}
}

func TestWeightsOfOneAndNoPoints(t *testing.T) {
	for at := range 256 {
		for point := range 256 {
			if w, e := lagr.Weights([]byte{byte(point)}, byte(at)); e != api.OK || !bytes.Equal(w, []byte{1}) {
				t.Error(point, at, w, e)
			}
		}
		for _, points := range [][]byte{nil, {}} {
			if w, e := lagr.Weights(points, byte(at)); e != api.OK || len(w) != 0 {
				t.Error(at, w, e)
			}
		}
	}
}

// All bytes as points are one more than the limit names, but none stands twice.
func TestWeightsByAllBytes(t *testing.T) {
	for _, points := range [][]byte{count(256), unlike(256, 9)} {
		for k, at := range points {
			if w, e := lagr.Weights(points, at); e != api.OK || !isUnit(w, 256, k) {
				t.Error(at, w, e)
			}
		}
	}
}

func TestWeightsErrTwice(t *testing.T) {
	for i, points := range twice() {
		for _, at := range []byte{0, 1, points[0], points[len(points)-1], 200, 255} {
			if w, e := lagr.Weights(points, at); e != api.ErrTwice || len(w) != 0 {
				t.Error(i, at, w, e)
			}
		}
	}
}

func TestValue(t *testing.T) {
	for i, points := range sets() {
		for seed := range 4 {
			p := some(len(points)-seed*len(points)/4, seed+i)
			values := valuesOf(p, points)
			for _, at := range asked(points) {
				if v, e := lagr.Value(points, values, at); e != api.OK || v != value(p, at) {
					t.Error(i, seed, at, v, e)
				}
			}
		}
	}
}

// Values by any rule, not of a polynomial that was chosen: the one that poly finds through the points.
func TestValueOfAnyValues(t *testing.T) {
	for i, points := range sets() {
		values := some(len(points), i+100)
		p, e := poly.Through(points, values)
		if e != api.OK {
			t.Fatal(i, e)
		}
		for _, at := range asked(points) {
			if v, e := lagr.Value(points, values, at); e != api.OK || v != value(p, at) {
				t.Error(i, at, v, e)
			}
		}
	}
}

func TestValueOfOneAndNoPoints(t *testing.T) {
	for at := range 256 {
		for _, told := range []byte{0, 1, 200, 255} {
			if v, e := lagr.Value([]byte{3}, []byte{told}, byte(at)); e != api.OK || v != told {
				t.Error(told, at, v, e)
			}
		}
		for _, c := range [][2][]byte{{nil, nil}, {{}, nil}, {nil, {}}, {{}, {}}} {
			if v, e := lagr.Value(c[0], c[1], byte(at)); e != api.OK || v != 0 {
				t.Error(at, v, e)
			}
		}
	}
}

func TestValues(t *testing.T) {
	for i, points := range sets() {
		p := some(len(points), i)
		values := valuesOf(p, points)
		for _, at := range [][]byte{asked(points), {0}, {255}, {points[0], 9, points[0], 9, 9}, points, unlike(256, i), some(1000, i)[900:]} {
			if l, e := lagr.Values(points, values, at); e != api.OK || !bytes.Equal(l, valuesOf(p, at)) {
				t.Error(i, at, l, e)
			}
		}
	}
}

func TestValuesOfManyBytes(t *testing.T) {
	points, p := unlike(20, 4), some(20, 5)
	at := some(5000, 6)
	if l, e := lagr.Values(points, valuesOf(p, points), at); e != api.OK || !bytes.Equal(l, valuesOf(p, at)) {
		t.Error(len(l), e)
	}
}

func TestValuesOfNoBytes(t *testing.T) {
	for _, at := range [][]byte{nil, {}} {
		for _, points := range [][]byte{nil, {}, {4}, unlike(255, 1)} {
			if l, e := lagr.Values(points, some(len(points), 3), at); e != api.OK || len(l) != 0 {
				t.Error(len(points), l, e)
			}
		}
	}
}

func TestValuesWithoutPoints(t *testing.T) {
	for _, at := range [][]byte{{0}, {1, 2, 3}, count(256), some(700, 1)} {
		if l, e := lagr.Values(nil, nil, at); e != api.OK || !bytes.Equal(l, make([]byte, len(at))) {
			t.Error(len(at), l, e)
		}
	}
}

// uneven are points and values of which one are fewer than the others; a byte may stand twice: ErrArg is named first.
func uneven() [][2][]byte {
	return [][2][]byte{
		{{3}, nil}, {nil, {3}}, {{}, {0}}, {{0}, {}}, {{1, 2}, {1}}, {{1, 2}, {1, 2, 3}}, {{1, 2, 3}, {0, 0}}, {unlike(255, 1), some(254, 1)}, {unlike(254, 1), some(255, 1)}, {unlike(44, 1), some(300, 1)},
		{{3, 3}, nil}, {{3, 3}, {1}}, {{3, 3}, {1, 1, 1}}, {{1, 2, 1}, {4, 4}}, {{1, 2, 1}, {4, 4, 4, 4}}, {make([]byte, 300), make([]byte, 44)}, {make([]byte, 70000), nil}, {append(unlike(256, 3), 77), some(256, 1)},
	}
}

func TestValueErrArgFirst(t *testing.T) {
	for i, c := range uneven() {
		for _, at := range []byte{0, 1, 3, 255} {
			if v, e := lagr.Value(c[0], c[1], at); e != api.ErrArg || v != 0 {
				t.Error(i, at, v, e)
			}
		}
		for _, at := range [][]byte{nil, {}, {0}, {1, 2, 3}, count(256)} {
			if l, e := lagr.Values(c[0], c[1], at); e != api.ErrArg || len(l) != 0 {
				t.Error(i, len(at), l, e)
			}
		}
	}
}

func TestValueErrTwice(t *testing.T) {
	for i, points := range twice() {
		for _, values := range [][]byte{make([]byte, len(points)), some(len(points), 1)} {
			for _, at := range []byte{0, 1, points[0], points[len(points)-1], 200, 255} {
				if v, e := lagr.Value(points, values, at); e != api.ErrTwice || v != 0 {
					t.Error(i, at, v, e)
				}
			}
			for _, at := range [][]byte{nil, {}, {0}, points[:2], count(256)} {
				if l, e := lagr.Values(points, values, at); e != api.ErrTwice || len(l) != 0 {
					t.Error(i, len(at), l, e)
				}
			}
		}
	}
}

// P4.2

func TestTable(t *testing.T) {
	for _, n := range []int{1, 2, 3, 4, 5, 17, 100, 254, 255} {
		for _, k := range []int{1, 2, 3, 4, 5, 16, 17, 50, 99, 100, 128, 253, 254, 255} {
			if k > n {
				continue
			}
			m, e := lagr.Table(k, n)
			if e != api.OK || len(m) != n {
				t.Error(k, n, len(m), e)
				continue
			}
			for at, row := range m {
				if at < k && !isUnit(row, k, at) {
					t.Error("no unit:", k, n, at, row)
				}
				if (n < 20 || at%9 == 0 || at == n-1) && !weigh(count(k), byte(at), row) {
					t.Error(k, n, at, row)
				}
			}
		}
	}
}

func TestTableRowsAreWeights(t *testing.T) {
	for _, c := range [][2]int{{1, 1}, {1, 255}, {2, 2}, {2, 4}, {30, 90}, {254, 255}, {255, 255}} {
		m, e := lagr.Table(c[0], c[1])
		if e != api.OK || len(m) != c[1] {
			t.Fatal(c, len(m), e)
		}
		for at, row := range m {
			if w, e := lagr.Weights(count(c[0]), byte(at)); e != api.OK || !bytes.Equal(w, row) {
				t.Error(c, at, row, w, e)
			}
		}
	}
}

func TestTableOfSizes(t *testing.T) {
	sizes := []int{math.MinInt, math.MinInt + 255, math.MinInt32, -256, -255, -2, -1, 0, 1, 2, 3, 127, 128, 254, 255, 256, 257, 258, 511, 512, 65536, 1<<32 + 1, math.MaxInt32, math.MaxInt - 1, math.MaxInt}
	for _, k := range sizes {
		for _, n := range sizes {
			fault, high := api.ErrArg, 0
			if 1 <= k && k <= n && n <= 255 {
				fault, high = api.OK, n
			}
			m, e := lagr.Table(k, n)
			if e != fault || len(m) != high {
				t.Error(k, n, len(m), e)
			}
			for _, row := range m {
				if len(row) != k {
					t.Error(k, n, len(row))
				}
			}
		}
	}
	for k := range 257 {
		for _, n := range []int{k - 1, k, k + 1} {
			_, e := lagr.Table(k, n)
			if (e == api.OK) != (k >= 1 && k <= n && n <= 255) || e != api.OK && e != api.ErrArg {
				t.Error(k, n, e)
			}
		}
	}
}

// P4.3

func TestValueAtAPointIsTold(t *testing.T) {
	for i, points := range sets() {
		values := some(len(points), i)
		if l, e := lagr.Values(points, values, points); e != api.OK || !bytes.Equal(l, values) {
			t.Error(i, l, e)
		}
		for k, at := range points {
			if v, e := lagr.Value(points, values, at); e != api.OK || v != values[k] {
				t.Error(i, k, v, e)
			}
		}
	}
}

func TestWeightsAddUpToOne(t *testing.T) {
	for i, points := range append(sets(), unlike(256, 1)) {
		for at := range 256 {
			w, e := lagr.Weights(points, byte(at))
			sum := byte(0)
			for _, x := range w {
				sum ^= x
			}
			if e != api.OK || sum != 1 {
				t.Error(i, at, sum, e)
			}
		}
	}
	for at, row := range must(lagr.Table(40, 120))(t) {
		sum := byte(0)
		for _, x := range row {
			sum ^= x
		}
		if sum != 1 {
			t.Error(at, sum)
		}
	}
}

// must gives a matrix that was answered with OK.
func must(m [][]byte, e api.Errno) func(t *testing.T) [][]byte {
	return func(t *testing.T) [][]byte {
		t.Helper()
		if e != api.OK {
			t.Fatal(e)
		}
		return m
	}
}

// choices calls with all choices of k of n places, in order.
func choices(n, k int, call func(chosen []int)) {
	chosen := []int{}
	var from func(first int)
	from = func(first int) {
		if len(chosen) == k {
			call(chosen)
			return
		}
		for i := first; i < n; i++ {
			chosen = append(chosen, i)
			from(i + 1)
			chosen = chosen[:len(chosen)-1]
		}
	}
	from(0)
}

// invertible asks whether the rows of a table at some places have an inverse.
func invertible(m [][]byte, places []int) bool {
	chosen := make([][]byte, len(places))
	for i, place := range places {
		chosen[i] = m[place]
	}
	_, e := rows.Inverse(chosen)
	return e == api.OK && rows.Rank(chosen) == len(places)
}

func TestAnyRowsOfATableHaveAnInverse(t *testing.T) {
	for n := 1; n <= 9; n++ {
		for k := 1; k <= n; k++ {
			m, asked := must(lagr.Table(k, n))(t), 0
			choices(n, k, func(chosen []int) {
				asked++
				if !invertible(m, chosen) {
					t.Error(k, n, chosen)
				}
				back := slices.Clone(chosen)
				slices.Reverse(back)
				if !invertible(m, back) {
					t.Error(k, n, back)
				}
			})
			if asked == 0 {
				t.Error("no choice:", k, n)
			}
		}
	}
}

func TestAnyRowsOfAGreatTableHaveAnInverse(t *testing.T) {
	for _, k := range []int{1, 2, 16, 100, 127, 200, 254, 255} {
		m := must(lagr.Table(k, 255))(t)
		last := make([]int, k)
		for i := range last {
			last[i] = 255 - k + i
		}
		if !invertible(m, last) {
			t.Error("the last ones:", k)
		}
		for seed := range 4 {
			var places []int
			for _, x := range unlike(256, seed) {
				if x < 255 && len(places) < k {
					places = append(places, int(x))
				}
			}
			if !invertible(m, places) {
				t.Error(k, seed)
			}
		}
	}
}

// A table is a code: values at any k of its bytes tell those at the first ones.
func TestTablePartsTellTheWhole(t *testing.T) {
	m := must(lagr.Table(5, 12))(t)
	source := some(5, 7)
	symbols, e := rows.Apply(m, source)
	if e != api.OK {
		t.Fatal(e)
	}
	choices(12, 5, func(chosen []int) {
		points, values := make([]byte, 5), make([]byte, 5)
		for i, place := range chosen {
			points[i], values[i] = byte(place), symbols[place]
		}
		if l, e := lagr.Values(points, values, count(5)); e != api.OK || !bytes.Equal(l, source) {
			t.Error(chosen, l, e)
		}
	})
}

// R3: arguments stay as they were, and answers share no memory with them nor with one another.

// within is a row in a memory that has bytes ahead of it and behind it.
func within(row []byte) (back, cut []byte) {
	back = append(append([]byte{91, 92}, row...), 93, 94, 95)
	return back, back[2 : 2+len(row)]
}

func TestArgumentsStayAsTheyWere(t *testing.T) {
	sorts := append(append(sets(), nil, []byte{}, unlike(256, 1)), twice()...)
	for i, p := range sorts {
		for _, q := range [][]byte{nil, {7}, {7, 8}, some(len(p), i), make([]byte, len(p))} {
			for _, at := range [][]byte{nil, {3}, p[:min(len(p), 6)]} {
				b1, points := within(p)
				b2, values := within(q)
				b3, bytesAt := within(at)
				w1, w2, w3 := bytes.Clone(b1), bytes.Clone(b2), bytes.Clone(b3)
				weights, _ := lagr.Weights(points, 5)
				lagr.Value(points, values, 5)
				found, _ := lagr.Values(points, values, bytesAt)
				if !bytes.Equal(b1, w1) || !bytes.Equal(b2, w2) || !bytes.Equal(b3, w3) {
					t.Fatal("changed:", i)
				}
				was := bytes.Clone(weights)
				spoil(found)
				if !bytes.Equal(weights, was) {
					t.Fatal("shared with one another:", i)
				}
				spoil(weights)
				if !bytes.Equal(b1, w1) || !bytes.Equal(b2, w2) || !bytes.Equal(b3, w3) {
					t.Fatal("shared:", i)
				}
			}
		}
	}
}

func TestRowsOfATableShareNoMemory(t *testing.T) {
	for range 2 { // what was written over must not come again
		for _, c := range [][2]int{{1, 1}, {1, 255}, {2, 4}, {3, 3}, {20, 60}, {100, 255}, {255, 255}} {
			m, other := must(lagr.Table(c[0], c[1]))(t), must(lagr.Table(c[0], c[1]))(t)
			was := make([][]byte, len(m))
			for r, row := range m {
				was[r] = bytes.Clone(row)
			}
			for r, row := range m {
				spoil(row)
				for i, next := range m {
					if i != r && !bytes.Equal(next, was[i]) {
						t.Fatal("shared:", c, r, i)
					}
				}
				spoil(row)
			}
			for _, row := range m {
				spoil(row)
			}
			clear(m[:cap(m)])
			if !same(other, was) {
				t.Error("shared with another table:", c)
			}
			for at, row := range was {
				if at < c[0] && !isUnit(row, c[0], at) {
					t.Error("written over:", c, at)
				}
			}
		}
	}
}

func TestAnswersShareNoMemory(t *testing.T) {
	points, values := unlike(30, 2), some(30, 3)
	for _, at := range []byte{points[0], points[29], 1, 200} {
		first, e := lagr.Weights(points, at)
		if e != api.OK || !weigh(points, at, first) {
			t.Error(at, first, e)
		}
		spoil(first)
		if again, e := lagr.Weights(points, at); e != api.OK || !weigh(points, at, again) {
			t.Error(at, again, e)
		}
	}
	want, _ := lagr.Values(points, values, points)
	spoil(want)
	if l, e := lagr.Values(points, values, points); e != api.OK || !bytes.Equal(l, values) {
		t.Error(l, e)
	}
}

// What points were does not stand in what is asked later.
func TestPointsAreNotKept(t *testing.T) {
	points, values := unlike(9, 1), some(9, 2)
	w, _ := lagr.Weights(points, 77)
	l, _ := lagr.Values(points, values, []byte{77, 78})
	was, found := bytes.Clone(w), bytes.Clone(l)
	clear(points)
	clear(values)
	if !bytes.Equal(w, was) || !bytes.Equal(l, found) {
		t.Error(w, l)
	}
	if w, e := lagr.Weights([]byte{points[0]}, 3); e != api.OK || !bytes.Equal(w, []byte{1}) {
		t.Error(w, e)
	}
}

// One row may come as all arguments, and rows may overlap.
func TestRowsThatOverlap(t *testing.T) {
	back := unlike(40, 6)
	was := bytes.Clone(back)
	if l, e := lagr.Values(back, back, back); e != api.OK || !bytes.Equal(l, back) {
		t.Error(l, e)
	}
	want, fault := lagr.Values(bytes.Clone(back[:20]), bytes.Clone(back[10:30]), bytes.Clone(back[15:]))
	if l, e := lagr.Values(back[:20], back[10:30], back[15:]); e != fault || e != api.OK || !bytes.Equal(l, want) {
		t.Error(l, e)
	}
	// the values are the points themselves: of the polynomial x
	if v, e := lagr.Value(back[:7], back[:7], 99); e != api.OK || v != 99 {
		t.Error(v, e)
	}
	if !bytes.Equal(back, was) {
		t.Error(back)
	}
}

// R4, R6: one thing is answered alike each time, and lists without elements and nil ones are one.
func TestAlikeEachTime(t *testing.T) {
	for seed := range 30 {
		points, values, at := unlike(seed*8, seed), some(seed*8, seed), some(20, seed)
		first, e1 := lagr.Weights(points, at[0])
		again, e2 := lagr.Weights(bytes.Clone(points), at[0])
		if e1 != e2 || !bytes.Equal(first, again) {
			t.Error(seed, first, again)
		}
		l, e1 := lagr.Values(points, values, at)
		m, e2 := lagr.Values(bytes.Clone(points), bytes.Clone(values), bytes.Clone(at))
		if e1 != e2 || !bytes.Equal(l, m) {
			t.Error(seed, l, m)
		}
		for i, x := range at {
			if v, e := lagr.Value(points, values, x); e != api.OK || v != l[i] {
				t.Error(seed, x, v, l[i], e)
			}
		}
		if seed > 0 && !same(must(lagr.Table(seed, 8*seed))(t), must(lagr.Table(seed, 8*seed))(t)) {
			t.Error(seed)
		}
	}
}

// In what order points stand does not matter, but that weights stand so too.
func TestPointsInAnyOrder(t *testing.T) {
	for _, size := range []int{2, 5, 40, 255} {
		points, values := unlike(size, 8), some(size, 9)
		for _, at := range asked(points) {
			w, e1 := lagr.Weights(points, at)
			v, e2 := lagr.Value(points, values, at)
			turned, last := slices.Clone(points), slices.Clone(values)
			slices.Reverse(turned)
			slices.Reverse(last)
			u, e3 := lagr.Weights(turned, at)
			slices.Reverse(u)
			if e1 != api.OK || e3 != api.OK || !bytes.Equal(w, u) {
				t.Error(size, at, e1, e3)
			}
			if x, e := lagr.Value(turned, last, at); e != api.OK || e2 != api.OK || x != v {
				t.Error(size, at, x, v, e, e2)
			}
		}
	}
}
