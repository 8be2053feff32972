package size_test

import (
	"math"
	"slices"
	"testing"

	"hourglass/api"
	"hourglass/size"
)

// The calls, as the chapter has them.
var (
	_ func(b size.Bounds) bool                         = size.Right
	_ func(n int, table []api.Row) (int, api.Errno)    = size.Of
	_ func(b size.Bounds, layers int) (int, api.Errno) = size.Room
	_ func(b size.Bounds, lens, ks []int) bool         = size.Fits
	_ func(b size.Bounds, lens ...int) bool            = size.Can
	_ struct{ N, MTU, Budget int }                     = size.Bounds{}
	_ [18]struct{}                                     = [size.Fixed]struct{}{}
	_ [3]struct{}                                      = [size.Each]struct{}{}
)

// What is asked is held against these, which know no package but the words of the chapters.

// width is the least one of which k times are not below the length.
func width(long, k int) int {
	w := long / k
	for w*k < long {
		w++
	}
	return w
}

// rightBounds says whether bounds are, word by word.
func rightBounds(b size.Bounds) bool {
	return 1 <= b.N && b.N <= 255 && 64 <= b.MTU && b.MTU <= 1500 && 1 <= b.Budget && b.Budget <= 524288
}

// rightTable says whether rows are a table, word by word.
func rightTable(n int, table []api.Row) bool {
	is := 1 <= n && n <= 255 && 1 <= len(table) && len(table) <= 8
	for place, row := range table {
		is = is && 1 <= row.K && row.K <= n && 0 <= row.Len && row.Len <= 65535
		is = is && (place == 0 || table[place-1].K <= row.K)
	}
	return is
}

// big is the size of a datagram of a table.
func big(table []api.Row) int {
	sum := 18
	for _, row := range table {
		sum += 3 + width(row.Len, row.K)
	}
	return sum
}

// most is how long a datagram may be: the greatest one that is at most MTU, and of which N times are at most Budget.
func most(b size.Bounds) int {
	long := 0
	for long < b.MTU && (long+1)*b.N <= b.Budget {
		long++
	}
	return long
}

// room is how long a body may be.
func room(b size.Bounds, layers int) int {
	left := most(b) - 18
	for range layers {
		left -= 3
	}
	if left < 0 {
		return -1
	}
	return left
}

// fits says whether thresholds fit lengths, word by word.
func fits(b size.Bounds, lens, ks []int) bool {
	if !rightBounds(b) || len(lens) != len(ks) {
		return false
	}
	table := make([]api.Row, len(lens))
	for place := range table {
		table[place] = api.Row{K: ks[place], Len: lens[place]}
	}
	return rightTable(b.N, table) && big(table) <= b.MTU && b.N*big(table) <= b.Budget
}

// rows are of such thresholds and lengths, by turns.
func rows(numbers ...int) []api.Row {
	var out []api.Row
	for i := 0; i < len(numbers); i += 2 {
		out = append(out, api.Row{K: numbers[i], Len: numbers[i+1]})
	}
	return out
}

// far are numbers that are below or above all that may be; among them such as are right ones when they are cut.
var far = []int{-1, -2, -63, -64, -255, -256, -1500, -65535, -65536, 1 << 20, 1<<24 + 100, 1<<31 - 1, 1 << 31, 1<<31 + 1, 1<<32 + 1, 1<<32 + 64, 1<<32 + 255, 1<<32 + 100, 100 - 1<<32, 1 - 1<<32, -1 << 31, math.MaxInt - 1, math.MaxInt, math.MinInt, math.MinInt + 1, math.MinInt + 64}

var (
	wrongNs      = slices.Concat(far, []int{0, 256, 257, 511, 512, 65536, 65537})
	wrongMTUs    = slices.Concat(far, []int{0, 1, 62, 63, 1501, 1502, 65535, 65536, 65600})
	wrongBudgets = slices.Concat(far, []int{0, 1<<19 + 1, 1<<19 + 2})
	wrongLayers  = slices.Concat(far, []int{0, 9, 10, 255, 256, 257, 65537})
	wrongLengths = slices.Concat(far, []int{65536, 65537, 131072})
	wrongKs      = slices.Concat(far, []int{0, 256, 257, 65537})
)

// ends are bounds at the least and the greatest numbers, and some between.
func ends() []size.Bounds {
	var out []size.Bounds
	for _, n := range []int{1, 2, 3, 4, 100, 254, 255} {
		for _, mtu := range []int{64, 65, 100, 1499, 1500} {
			for _, budget := range []int{1, 2, 17, 18, 20, 21, 22, 63, 64, 65, 200, 1000, 21 * n, 64*n - 1, 64 * n, 64*n + 1, 1500 * n, 5355, 16320, 382500, 1<<19 - 1, 1 << 19} {
				out = append(out, size.Bounds{N: n, MTU: mtu, Budget: budget})
			}
		}
	}
	return out
}

func TestLimitsAndErrorsByTheirNumbers(t *testing.T) {
	if api.MaxN != 255 || api.MinMTU != 64 || api.MaxMTU != 1500 || api.MaxBudget != 524288 || api.MaxLayers != 8 || api.MaxLayer != 65535 || api.OK != 0 || api.ErrArg != 2 {
		t.Error(api.MaxN, api.MinMTU, api.MaxMTU, api.MaxBudget, api.MaxLayers, api.MaxLayer, api.OK, api.ErrArg)
	}
}

func TestExample(t *testing.T) {
	b := size.Bounds{N: 4, MTU: 64, Budget: 200}
	if left, e := size.Room(b, 2); left != 26 || e != api.OK {
		t.Error(left, e)
	}
	if !size.Fits(b, []int{40, 60}, []int{4, 4}) || !size.Can(b, 40, 60) {
		t.Error("4, 4 fit")
	}
	for first := -1; first <= 6; first++ {
		for second := -1; second <= 6; second++ {
			if is := size.Fits(b, []int{40, 60}, []int{first, second}); is != (first == 4 && second == 4) {
				t.Error("4, 4 alone fit", first, second, is)
			}
		}
	}
}

// P11.1

// asked asks of bounds whether they are, and for each number of layers their room.
func asked(t *testing.T, b size.Bounds) {
	t.Helper()
	is := rightBounds(b)
	if got := size.Right(b); got != is {
		t.Errorf("Right(%v): %v", b, got)
	}
	for layers := -1; layers <= 10; layers++ {
		want, e := 0, api.ErrArg
		if is && 1 <= layers && layers <= 8 {
			want, e = room(b, layers), api.OK
		}
		if got, f := size.Room(b, layers); got != want || f != e {
			t.Errorf("Room(%v, %d): %d %d, not %d %d", b, layers, got, f, want, e)
		}
	}
}

func TestBoundsThatAreWrittenOut(t *testing.T) {
	for i, x := range []struct {
		n, mtu, budget int
		is             bool
	}{
		{4, 64, 200, true}, {1, 64, 1, true}, {255, 1500, 524288, true}, {100, 1200, 100000, true},
		{0, 64, 200, false}, {1, 64, 200, true}, {255, 64, 200, true}, {256, 64, 200, false}, {-1, 64, 200, false},
		{4, 63, 200, false}, {4, 64, 1, true}, {4, 1500, 1, true}, {4, 1501, 200, false}, {4, -64, 200, false}, {4, 0, 200, false},
		{4, 64, 0, false}, {4, 64, -1, false}, {4, 64, 524288, true}, {4, 64, 524289, false},
		{0, 0, 0, false}, {-4, -64, -200, false}, {math.MaxInt, math.MaxInt, math.MaxInt, false}, {math.MinInt, math.MinInt, math.MinInt, false},
	} {
		b := size.Bounds{N: x.n, MTU: x.mtu, Budget: x.budget}
		if is := size.Right(b); is != x.is {
			t.Error(i, b, is)
		}
		asked(t, b)
	}
}

func TestBoundsAtTheirEnds(t *testing.T) {
	for _, n := range []int{-1, 0, 1, 2, 4, 254, 255, 256} {
		for _, mtu := range []int{-1, 0, 63, 64, 65, 1499, 1500, 1501} {
			for _, budget := range []int{-1, 0, 1, 2, 1000, 1<<19 - 1, 1 << 19, 1<<19 + 1} {
				asked(t, size.Bounds{N: n, MTU: mtu, Budget: budget})
			}
		}
	}
	for _, b := range ends() {
		asked(t, b)
	}
}

func TestBoundsThatAreNone(t *testing.T) {
	for _, b := range ends()[:200] {
		for _, n := range wrongNs {
			none(t, size.Bounds{N: n, MTU: b.MTU, Budget: b.Budget})
		}
		for _, mtu := range wrongMTUs {
			none(t, size.Bounds{N: b.N, MTU: mtu, Budget: b.Budget})
		}
		for _, budget := range wrongBudgets {
			none(t, size.Bounds{N: b.N, MTU: b.MTU, Budget: budget})
		}
	}
	for _, number := range far {
		none(t, size.Bounds{N: number, MTU: number, Budget: number})
	}
	none(t, size.Bounds{})
}

// none asks of bounds that are none all that there is: nothing has room, and nothing fits.
func none(t *testing.T, b size.Bounds) {
	t.Helper()
	if size.Right(b) {
		t.Error("Right", b)
	}
	for _, layers := range []int{0, 1, 8, 9} {
		if left, e := size.Room(b, layers); left != 0 || e != api.ErrArg {
			t.Error("Room", b, layers, left, e)
		}
	}
	for _, k := range []int{1, b.N} {
		if size.Fits(b, []int{0}, []int{k}) || size.Fits(b, []int{5, 6}, []int{k, k}) {
			t.Error("Fits", b, k)
		}
	}
	if size.Can(b) || size.Can(b, 0) || size.Can(b, 5, 6) || size.Can(b, -1) {
		t.Error("Can", b)
	}
}

func TestSizesThatAreWrittenOut(t *testing.T) {
	for i, x := range []struct {
		n     int
		table []api.Row
		size  int
		e     api.Errno
	}{
		{1, rows(1, 0), 21, api.OK}, {1, rows(1, 1), 22, api.OK}, {4, rows(2, 5, 3, 0), 27, api.OK}, {4, rows(4, 40, 4, 60), 49, api.OK}, {4, rows(3, 40, 4, 60), 53, api.OK},
		{3, rows(1, 1, 2, 2), 26, api.OK}, {255, rows(255, 65535), 278, api.OK}, {255, rows(255, 256), 23, api.OK}, {1, rows(1, 65535), 65556, api.OK},
		{8, rows(1, 0, 2, 0, 3, 0, 4, 0, 5, 0, 6, 0, 7, 0, 8, 0), 42, api.OK}, {255, slices.Repeat(rows(1, 65535), 8), 524322, api.OK}, {255, slices.Repeat(rows(255, 65535), 8), 2098, api.OK},
		{4, nil, 0, api.ErrArg}, {4, []api.Row{}, 0, api.ErrArg}, {4, slices.Repeat(rows(1, 1), 9), 0, api.ErrArg}, {4, rows(2, 1, 1, 1), 0, api.ErrArg}, {4, rows(5, 1), 0, api.ErrArg}, {4, rows(0, 1), 0, api.ErrArg}, {4, rows(1, -1), 0, api.ErrArg}, {4, rows(1, 65536), 0, api.ErrArg},
		{0, rows(1, 1), 0, api.ErrArg}, {-1, rows(1, 1), 0, api.ErrArg}, {256, rows(1, 1), 0, api.ErrArg}, {256, rows(256, 1), 0, api.ErrArg}, {0, nil, 0, api.ErrArg}, {4, make([]api.Row, 2), 0, api.ErrArg},
	} {
		if got, e := size.Of(x.n, x.table); got != x.size || e != x.e {
			t.Error(i, got, e)
		}
		sized(t, x.n, x.table)
	}
}

// sized asks the size of rows.
func sized(t *testing.T, n int, table []api.Row) {
	t.Helper()
	want, e := 0, api.ErrArg
	if rightTable(n, table) {
		want, e = big(table), api.OK
	}
	if got, f := size.Of(n, table); got != want || f != e {
		t.Errorf("Of(%d, %v): %d %d, not %d %d", n, table, got, f, want, e)
	}
}

// steps are eight rows of thresholds that rise.
func steps() []api.Row {
	return rows(10, 100, 20, 101, 30, 0, 40, 65535, 50, 1, 60, 60, 70, 71, 80, 999)
}

func TestSizesOfTables(t *testing.T) {
	for n := -3; n <= 300; n++ {
		for _, table := range [][]api.Row{rows(1, 3), rows(n, 300), rows(n-1, 3), rows(n+1, 3), rows(1, 3, n, 500), rows(n, 3, n, 5), steps(), steps()[:3]} {
			sized(t, n, table)
		}
	}
	for many := range 20 {
		sized(t, 9, slices.Repeat(rows(4, 17), many))
	}
	for place := range 8 {
		for _, number := range slices.Concat(wrongKs, wrongLengths, []int{1, 9, 10, 20, 35, 79, 80, 81, 100, 101, 65535}) {
			table := steps()
			table[place].K = number
			sized(t, 100, table)
			table = steps()
			table[place].Len = number
			sized(t, 100, table)
			sized(t, 100, table[:place+1])
			sized(t, number, steps())
		}
	}
}

func TestRoomThatIsWrittenOut(t *testing.T) {
	for i, x := range []struct {
		n, mtu, budget, layers, left int
	}{
		{4, 64, 200, 2, 26}, {4, 64, 200, 1, 29}, {4, 64, 200, 8, 8}, {1, 64, 524288, 1, 43}, {1, 1500, 524288, 1, 1479}, {1, 1500, 524288, 8, 1458}, {255, 1500, 524288, 1, 1479}, {255, 1500, 382500, 1, 1479}, {255, 1500, 382499, 1, 1478},
		{4, 64, 84, 1, 0}, {4, 64, 87, 1, 0}, {4, 64, 88, 1, 1}, {4, 64, 83, 1, -1}, {4, 64, 80, 1, -1}, {4, 64, 1, 1, -1}, {1, 64, 20, 1, -1}, {1, 64, 21, 1, 0}, {1, 64, 22, 1, 1},
		{1, 64, 42, 8, 0}, {1, 64, 41, 8, -1}, {1, 64, 1, 8, -1}, {255, 64, 5355, 1, 0}, {255, 64, 5354, 1, -1}, {255, 64, 254, 1, -1}, {255, 1500, 1, 8, -1}, {1, 64, 64, 1, 43}, {1, 64, 63, 1, 42}, {1, 64, 65, 1, 43},
	} {
		b := size.Bounds{N: x.n, MTU: x.mtu, Budget: x.budget}
		if left, e := size.Room(b, x.layers); left != x.left || e != api.OK {
			t.Error(i, left, e)
		}
	}
}

func TestRoomOfEachN(t *testing.T) {
	for n := 0; n <= 256; n++ {
		for _, mtu := range []int{64, 500, 1500} {
			for _, budget := range []int{1, 20, 21 * n, 21*n - 1, 42*n - 1, 42 * n, 64*n - 1, 64 * n, 499 * n, 1500*n - 1, 1500 * n, 1500*n + 1, 1 << 19} {
				asked(t, size.Bounds{N: n, MTU: mtu, Budget: budget})
			}
		}
	}
}

func TestRoomOfNoSuchLayers(t *testing.T) {
	for _, b := range ends() {
		for _, layers := range wrongLayers {
			if left, e := size.Room(b, layers); left != 0 || e != api.ErrArg {
				t.Error(b, layers, left, e)
			}
		}
	}
}
