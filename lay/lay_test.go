package lay_test

import (
	"bytes"
	"math"
	"slices"
	"testing"

	"hourglass/api"
	"hourglass/code"
	"hourglass/lay"
)

// The calls, as the chapter has them.
var (
	_ func(n int, table []api.Row) bool                                     = lay.Right
	_ func(n int, table []api.Row) (int, api.Errno)                         = lay.Long
	_ func(n int, table []api.Row, came int) (int, api.Errno)               = lay.Ready
	_ func(n int, layers [][]byte, ks []int) ([][]byte, api.Errno)          = lay.Bodies
	_ func(n int, table []api.Row, held ...code.Held) ([][]byte, api.Errno) = lay.Gather
)

// What is asked is held against these, which know no package but the words of the chapters.

// some is so many bytes, by a rule; none of them is 0, so that noughts are known from them.
func some(size, seed int) []byte {
	out, state := make([]byte, size), uint32(seed)*2654435761+12345
	for i := range out {
		state = state*1664525 + 1013904223
		out[i] = byte(state>>24)%255 + 1
	}
	return out
}

// width is the least one of which k times are not below the length.
func width(long, k int) int {
	w := long / k
	for w*k < long {
		w++
	}
	return w
}

// right says whether rows are a table, word by word.
func right(n int, table []api.Row) bool {
	is := 1 <= n && n <= 255 && 1 <= len(table) && len(table) <= 8
	for place, row := range table {
		is = is && 1 <= row.K && row.K <= n && 0 <= row.Len && row.Len <= 65535
		is = is && (place == 0 || table[place-1].K <= row.K)
	}
	return is
}

// long is how long a body of a table is.
func long(table []api.Row) int {
	sum := 0
	for _, row := range table {
		sum += width(row.Len, row.K)
	}
	return sum
}

// ready is how many rows have a threshold that is at most so many.
func ready(table []api.Row, came int) int {
	many := 0
	for _, row := range table {
		if row.K <= came {
			many++
		}
	}
	return many
}

// rows are of such thresholds and lengths, by turns.
func rows(numbers ...int) []api.Row {
	var out []api.Row
	for i := 0; i < len(numbers); i += 2 {
		out = append(out, api.Row{K: numbers[i], Len: numbers[i+1]})
	}
	return out
}

var (
	// wrongNs are below 1 or above 255; among them such as are right ones when they are cut.
	wrongNs = []int{0, -1, -2, -255, -256, 256, 257, 258, 511, 512, 65535, 65536, 65537, 1 << 20, 1<<31 - 1, 1 << 31, 1<<32 + 3, 1<<32 + 255, 3 - 1<<32, -1 << 31, math.MaxInt - 1, math.MaxInt, math.MinInt, math.MinInt + 1}
	// wrongLengths are below 0 or above 65535.
	wrongLengths = []int{-1, -2, -255, -256, -65535, -65536, 65536, 65537, 131071, 131072, 1 << 20, 1<<31 - 1, 1 << 31, 1<<32 + 5, 5 - 1<<32, -1 << 31, math.MaxInt - 254, math.MaxInt - 1, math.MaxInt, math.MinInt, math.MinInt + 1}
	// cames are how many may have come: few, many, and none that may be.
	cames = []int{0, 1, 2, 3, 4, 5, 6, 7, 8, 126, 127, 128, 129, 253, 254, 255, 256, 257, 300, 512, 65536, 1 << 20, 1<<31 - 1, 1 << 32, 1<<32 + 1, math.MaxInt - 1, math.MaxInt, -1, -2, -255, -256, -65536, -1 << 31, 1 - 1<<32, math.MinInt + 1, math.MinInt}
)

// asked asks of rows all that is told of them without bodies.
func asked(t *testing.T, n int, table []api.Row) {
	t.Helper()
	is, want, e := right(n, table), 0, api.ErrArg
	if is {
		want, e = long(table), api.OK
	}
	if got := lay.Right(n, table); got != is {
		t.Errorf("Right(%d, %v): %v", n, table, got)
	}
	if got, f := lay.Long(n, table); got != want || f != e {
		t.Errorf("Long(%d, %v): %d %d, not %d %d", n, table, got, f, want, e)
	}
	for _, came := range cames {
		many := 0
		if is {
			many = ready(table, came)
		}
		if got, f := lay.Ready(n, table, came); got != many || f != e {
			t.Errorf("Ready(%d, %v, %d): %d %d, not %d %d", n, table, came, got, f, many, e)
		}
	}
}

func TestLimitsAndErrorsByTheirNumbers(t *testing.T) {
	if api.MaxLayers != 8 || api.MaxLayer != 65535 || api.MaxN != 255 || api.OK != 0 || api.ErrArg != 2 || api.ErrTwice != 9 {
		t.Error(api.MaxLayers, api.MaxLayer, api.MaxN, api.OK, api.ErrArg, api.ErrTwice)
	}
}

func TestExample(t *testing.T) {
	layers, table := [][]byte{{5}, {7, 8}}, rows(1, 1, 2, 2)
	l, e := lay.Bodies(3, layers, []int{1, 2})
	if e != api.OK || !same(l, [][]byte{{5, 7}, {5, 8}, {5, 25}}) {
		t.Fatal(l, e)
	}
	for i := range l {
		if a, e := lay.Gather(3, table, hold(l, i)...); e != api.OK || !same(a, layers[:1]) {
			t.Error(i, a, e)
		}
		for j := range l {
			if a, e := lay.Gather(3, table, hold(l, i, j)...); i != j && (e != api.OK || !same(a, layers)) {
				t.Error(i, j, a, e)
			}
		}
	}
}

// P10.1

func TestTablesThatAreWrittenOut(t *testing.T) {
	for i, x := range []struct {
		n     int
		table []api.Row
		is    bool
		long  int
	}{
		{1, rows(1, 0), true, 0}, {1, rows(1, 1), true, 1}, {1, rows(1, 65535), true, 65535}, {255, rows(255, 65535), true, 257}, {255, rows(254, 65535), true, 259}, {255, rows(255, 1), true, 1}, {255, rows(255, 256), true, 2},
		{3, rows(1, 1, 2, 2), true, 2}, {3, rows(1, 5, 3, 7), true, 8}, {2, rows(2, 65535, 2, 1), true, 32769}, {4, rows(2, 5, 2, 5, 3, 5), true, 8},
		{5, rows(1, 65535, 1, 65535, 1, 65535, 1, 65535, 1, 65535, 1, 65535, 1, 65535, 1, 65535), true, 524280}, {9, rows(1, 1, 2, 2, 3, 3, 4, 4, 5, 5, 6, 6, 7, 7, 8, 8), true, 8},
		{3, nil, false, 0}, {3, []api.Row{}, false, 0}, {3, rows(2, 1, 1, 1), false, 0}, {3, rows(4, 1), false, 0}, {3, rows(0, 1), false, 0}, {3, rows(-1, 1), false, 0}, {0, rows(1, 1), false, 0}, {0, rows(0, 0), false, 0}, {-1, rows(1, 1), false, 0}, {-1, rows(-1, 1), false, 0}, {256, rows(1, 1), false, 0}, {256, rows(256, 1), false, 0},
		{3, rows(1, -1), false, 0}, {3, rows(1, 65536), false, 0}, {3, rows(1, 1, 1, 1, 1, 1, 1, 1, 1, 1, 1, 1, 1, 1, 1, 1, 1, 1), false, 0}, {3, make([]api.Row, 8), false, 0}, {0, nil, false, 0}, {256, nil, false, 0},
	} {
		e := api.ErrArg
		if x.is {
			e = api.OK
		}
		if is := lay.Right(x.n, x.table); is != x.is {
			t.Error(i, is)
		}
		if long, f := lay.Long(x.n, x.table); long != x.long || f != e {
			t.Error(i, long, f)
		}
		asked(t, x.n, x.table)
	}
}

func TestReadyThatIsWrittenOut(t *testing.T) {
	table := rows(1, 5, 2, 0, 2, 9, 5, 1)
	for came, want := range []int{0, 1, 3, 3, 3, 4, 4, 4, 4} {
		if many, e := lay.Ready(6, table, came); many != want || e != api.OK {
			t.Error(came, many, e)
		}
	}
	for _, came := range []int{-1, -6, math.MinInt} {
		if many, e := lay.Ready(6, table, came); many != 0 || e != api.OK {
			t.Error(came, many, e)
		}
	}
	if many, e := lay.Ready(6, table, math.MaxInt); many != 4 || e != api.OK {
		t.Error(many, e)
	}
}

// All rows of few kinds, up to three of them.
func TestSmallTables(t *testing.T) {
	var kinds []api.Row
	for _, k := range []int{-1, 0, 1, 2, 3, 4} {
		for _, long := range []int{-1, 0, 1, 4, 65536} {
			kinds = append(kinds, api.Row{K: k, Len: long})
		}
	}
	for n := -1; n <= 3; n++ {
		asked(t, n, nil)
		for _, a := range kinds {
			asked(t, n, []api.Row{a})
			for _, b := range kinds {
				asked(t, n, []api.Row{a, b})
				for _, c := range kinds {
					if table := []api.Row{a, b, c}; lay.Right(n, table) != right(n, table) {
						t.Error(n, table)
					}
				}
			}
		}
	}
}

func TestEachN(t *testing.T) {
	for n := -3; n <= 300; n++ {
		for _, table := range [][]api.Row{rows(1, 3), rows(n, 3), rows(n-1, 3), rows(n+1, 3), rows(1, 3, n, 5), rows(1, 3, n+1, 5), rows(n, 3, n, 5), rows(0, 3, n, 5)} {
			asked(t, n, table)
		}
	}
	for _, n := range wrongNs {
		for _, table := range [][]api.Row{nil, rows(1, 3), rows(3, 3), rows(n, 3), rows(1, 3, n, 3), rows(255, 0)} {
			asked(t, n, table)
			if lay.Right(n, table) {
				t.Error(n, table)
			}
		}
	}
}

func TestAsManyRows(t *testing.T) {
	for _, n := range []int{1, 2, 8, 9, 255} {
		for _, many := range []int{0, 1, 2, 3, 4, 5, 6, 7, 8, 9, 10, 16, 255, 256, 257, 264, 65536, 65537} {
			table := slices.Repeat(rows(1, 3), many)
			asked(t, n, table)
			if lay.Right(n, table) != (many >= 1 && many <= 8) {
				t.Error(n, many)
			}
		}
	}
	asked(t, 3, []api.Row{})
	asked(t, 3, rows(1, 1)[:0])
}

// steps are eight rows of thresholds that rise.
func steps() []api.Row {
	return rows(10, 100, 20, 101, 30, 0, 40, 65535, 50, 1, 60, 60, 70, 71, 80, 999)
}

func TestThresholdsAtEachPlace(t *testing.T) {
	for place := range 8 {
		for _, k := range slices.Concat(wrongNs, []int{1, 9, 10, 11, 19, 20, 21, 35, 40, 69, 70, 71, 79, 80, 81, 99, 100, 101, 255}) {
			table := steps()
			table[place].K = k
			asked(t, 100, table)
			asked(t, 100, table[:place+1])
		}
	}
	for place := 1; place < 8; place++ {
		table := steps()
		if table[place].K = table[place-1].K - 1; lay.Right(100, table) {
			t.Error(place, "below the one ahead")
		}
		if table[place].K = table[place-1].K; !lay.Right(100, table) {
			t.Error(place, "the same as the one ahead")
		}
	}
}

func TestThresholdsThatAreTheSame(t *testing.T) {
	for _, n := range []int{1, 2, 100, 254, 255} {
		for _, k := range []int{0, 1, 2, n - 1, n, n + 1} {
			for many := range 9 {
				asked(t, n, slices.Repeat(rows(k, 17), many))
			}
		}
	}
}

func TestLengthsAtEachPlace(t *testing.T) {
	for place := range 8 {
		for _, long := range slices.Concat(wrongLengths, []int{0, 1, 2, 9, 10, 11, 255, 256, 65534, 65535}) {
			table := steps()
			table[place].Len = long
			asked(t, 100, table)
			asked(t, 80, table)
			asked(t, 79, table)
			asked(t, 100, table[place:])
		}
	}
}

// What is told of rows does not hang on what stands behind them.
func TestRowsBehindTheTable(t *testing.T) {
	table := append(rows(1, 1, 2, 2), rows(0, -1, 1, 70000)...)
	if long, e := lay.Long(3, table[:2]); long != 2 || e != api.OK {
		t.Error(long, e)
	}
	if many, e := lay.Ready(3, table[:2], 300); many != 2 || e != api.OK {
		t.Error(many, e)
	}
}

func same(a, b [][]byte) bool { return slices.EqualFunc(a, b, bytes.Equal) }

func clone(l [][]byte) [][]byte {
	out := make([][]byte, len(l))
	for i, row := range l {
		out[i] = bytes.Clone(row)
	}
	return out
}
