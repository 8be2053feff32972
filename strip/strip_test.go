package strip_test

import (
	"bytes"
	"math"
	"slices"
	"testing"

	"hourglass/api"
	"hourglass/strip"
)

// The calls, as the chapter has them.
var (
	_ func(long, k int) (int, api.Errno)                = strip.Width
	_ func(long, k int) (int, api.Errno)                = strip.Waste
	_ func(b []byte, k int) ([][]byte, api.Errno)       = strip.Cut
	_ func(rows [][]byte, long int) ([]byte, api.Errno) = strip.Join
)

// some is so many bytes, by a rule; none of them is 0, so that noughts are known from them.
func some(size, seed int) []byte {
	out, state := make([]byte, size), uint32(seed)*2654435761+12345
	for i := range out {
		state = state*1664525 + 1013904223
		out[i] = byte(state>>24)%255 + 1
	}
	return out
}

// width is the least one of which k times are not below the length.
func width(long, k int) int {
	w := long / k
	for w*k < long {
		w++
	}
	return w
}

// cut is k rows of their width, byte by byte: one behind the other they are the bytes, and others that stand behind them.
func cut(b []byte, k int, behind func(place int) byte) [][]byte {
	rows, w := make([][]byte, k), width(len(b), k)
	for place := range k * w {
		x := behind(place)
		if place < len(b) {
			x = b[place]
		}
		rows[place/w] = append(rows[place/w], x)
	}
	return rows
}

func nought(int) byte { return 0 }

func same(a, b [][]byte) bool { return slices.EqualFunc(a, b, bytes.Equal) }

func clone(rows [][]byte) [][]byte {
	out := make([][]byte, len(rows))
	for i, row := range rows {
		out[i] = bytes.Clone(row)
	}
	return out
}

// lengths are some for k: the edges, those that it divides, and one more, one less.
func lengths(k int) []int {
	out := []int{0, 1, 2, 3, 254, 255, 256, 65534, 65535}
	for _, times := range []int{1, 2, 3, 7, 256, 257, 65535 / k} {
		for _, more := range []int{-1, 0, 1} {
			if long := times*k + more; long >= 0 && long <= 65535 {
				out = append(out, long)
			}
		}
	}
	slices.Sort(out)
	return slices.Compact(out)
}

var (
	// thresholds are right ones: the edges, and those about them.
	thresholds = []int{1, 2, 3, 4, 5, 7, 8, 16, 100, 127, 128, 129, 253, 254, 255}
	// wrongLengths are below 0 or above 65535; among them such as are right ones when they are cut, and those that more would take over an end.
	wrongLengths = []int{-1, -2, -254, -255, -256, -65535, -65536, 65536, 65537, 65790, 65791, 131070, 131071, 1 << 20, 1<<31 - 1, 1 << 31, 1 << 32, 1<<32 + 5, -1 << 31, -1 << 32, 5 - 1<<32, 1 << 62, math.MaxInt - 254, math.MaxInt - 1, math.MaxInt, math.MinInt, math.MinInt + 1, math.MinInt + 255}
	// wrongThresholds are below 1 or above 255.
	wrongThresholds = []int{0, -1, -2, -254, -255, -256, 256, 257, 258, 511, 512, 65535, 65536, 65537, 1<<31 - 1, 1 << 31, 1 << 32, 1<<32 + 1, 1<<32 + 255, -1 << 31, -1 << 32, 1 - 1<<32, 1 << 62, math.MaxInt - 1, math.MaxInt, math.MinInt, math.MinInt + 1}
)

// measured asks for a width, and for how many noughts there are.
func measured(t *testing.T, long, k, wide, waste int, want api.Errno) {
	t.Helper()
	if w, e := strip.Width(long, k); w != wide || e != want {
		t.Errorf("Width(%d, %d): %d %d, not %d %d", long, k, w, e, wide, want)
	}
	if w, e := strip.Waste(long, k); w != waste || e != want {
		t.Errorf("Waste(%d, %d): %d %d, not %d %d", long, k, w, e, waste, want)
	}
}

func TestLimitsAndErrorsByTheirNumbers(t *testing.T) {
	if api.MaxLayer != 65535 || api.MaxN != 255 || api.OK != 0 || api.ErrArg != 2 || api.ErrShape != 4 {
		t.Error(api.MaxLayer, api.MaxN, api.OK, api.ErrArg, api.ErrShape)
	}
}

func TestExample(t *testing.T) {
	measured(t, 5, 2, 3, 1, api.OK)
	rows, e := strip.Cut([]byte{11, 12, 13, 14, 15}, 2)
	if e != api.OK || !same(rows, [][]byte{{11, 12, 13}, {14, 15, 0}}) {
		t.Error(rows, e)
	}
	if b, e := strip.Join(rows, 5); e != api.OK || !bytes.Equal(b, []byte{11, 12, 13, 14, 15}) {
		t.Error(b, e)
	}
}

// P9.1

func TestWidthsThatAreWrittenOut(t *testing.T) {
	for _, x := range []struct{ long, k, wide, waste int }{
		{0, 1, 0, 0}, {0, 2, 0, 0}, {0, 255, 0, 0}, {1, 1, 1, 0}, {1, 2, 1, 1}, {1, 255, 1, 254}, {2, 1, 2, 0}, {2, 2, 1, 0}, {2, 3, 1, 1},
		{6, 3, 2, 0}, {7, 3, 3, 2}, {8, 3, 3, 1}, {9, 3, 3, 0}, {10, 4, 3, 2}, {60, 4, 15, 0}, {40, 3, 14, 2},
		{254, 255, 1, 1}, {255, 255, 1, 0}, {256, 255, 2, 254}, {256, 254, 2, 252}, {510, 255, 2, 0}, {511, 255, 3, 254},
		{65535, 1, 65535, 0}, {65535, 2, 32768, 1}, {65535, 3, 21845, 0}, {65535, 4, 16384, 1}, {65535, 128, 512, 1}, {65535, 254, 259, 251}, {65535, 255, 257, 0},
		{65534, 1, 65534, 0}, {65534, 2, 32767, 0}, {65534, 255, 257, 1}, {65280, 255, 256, 0}, {65281, 255, 257, 254},
	} {
		measured(t, x.long, x.k, x.wide, x.waste, api.OK)
	}
}

// All that are right: a width grows by 1 just where the length goes over a multiple of k.
func TestWidthsOfAllLengthsAndThresholds(t *testing.T) {
	for k := 1; k <= 255; k++ {
		wide := 0
		for long := range 65536 {
			if long > wide*k {
				wide++
			}
			w, e1 := strip.Width(long, k)
			u, e2 := strip.Waste(long, k)
			if w != wide || u != wide*k-long || e1 != api.OK || e2 != api.OK {
				t.Fatal(long, k, w, u, e1, e2)
			}
		}
	}
}

func TestLengthsThatAreNone(t *testing.T) {
	for _, long := range wrongLengths {
		for k := 1; k <= 255; k++ {
			measured(t, long, k, 0, 0, api.ErrArg)
		}
		for _, k := range wrongThresholds {
			measured(t, long, k, 0, 0, api.ErrArg)
		}
	}
}

func TestThresholdsThatAreNone(t *testing.T) {
	for _, k := range wrongThresholds {
		for _, long := range []int{0, 1, 2, 5, 255, 256, 257, 510, 65534, 65535} {
			measured(t, long, k, 0, 0, api.ErrArg)
		}
	}
}

// P9.2

// parted asks how bytes are cut.
func parted(t *testing.T, b []byte, k int) {
	t.Helper()
	if rows, e := strip.Cut(b, k); e != api.OK || !same(rows, cut(b, k, nought)) {
		t.Errorf("%d bytes, %d rows: %v %d", len(b), k, rows, e)
	}
}

func TestRowsThatAreWrittenOut(t *testing.T) {
	for _, x := range []struct {
		b    []byte
		rows [][]byte
	}{
		{[]byte{1}, [][]byte{{1}}}, {[]byte{1}, [][]byte{{1}, {0}}}, {[]byte{1}, [][]byte{{1}, {0}, {0}}},
		{[]byte{1, 2, 3}, [][]byte{{1, 2, 3}}}, {[]byte{1, 2, 3}, [][]byte{{1, 2}, {3, 0}}}, {[]byte{1, 2, 3}, [][]byte{{1}, {2}, {3}}}, {[]byte{1, 2, 3}, [][]byte{{1}, {2}, {3}, {0}, {0}}},
		{[]byte{1, 2, 3, 4}, [][]byte{{1, 2}, {3, 4}}}, {[]byte{1, 2, 3, 4}, [][]byte{{1, 2}, {3, 4}, {0, 0}}}, {[]byte{1, 2, 3, 4, 5, 6}, [][]byte{{1, 2}, {3, 4}, {5, 6}, {0, 0}, {0, 0}}},
		{[]byte{1, 2, 3, 4, 5, 6, 7}, [][]byte{{1, 2, 3}, {4, 5, 6}, {7, 0, 0}}}, {[]byte{0, 0, 9}, [][]byte{{0, 0}, {9, 0}}}, {[]byte{0, 0, 0}, [][]byte{{0, 0}, {0, 0}}},
		{nil, [][]byte{{}}}, {nil, [][]byte{{}, {}, {}}},
	} {
		if rows, e := strip.Cut(x.b, len(x.rows)); e != api.OK || !same(rows, x.rows) {
			t.Error(x, rows, e)
		}
		if b, e := strip.Join(x.rows, len(x.b)); e != api.OK || !bytes.Equal(b, x.b) {
			t.Error(x, b, e)
		}
	}
}

func TestCutOfEachLength(t *testing.T) {
	for k := 1; k <= 255; k++ {
		for _, long := range lengths(k) {
			if long < 2000 || slices.Contains(thresholds, k) {
				parted(t, some(long, long+k), k)
			}
		}
	}
	for long := range 300 {
		for _, k := range thresholds {
			parted(t, some(long, k), k)
		}
	}
}

func TestCutOfNoBytes(t *testing.T) {
	for _, none := range [][]byte{nil, {}, some(5, 1)[:0], some(5, 1)[5:]} {
		for k := 1; k <= 255; k++ {
			rows, e := strip.Cut(none, k)
			if e != api.OK || len(rows) != k {
				t.Error(k, rows, e)
			}
			for _, row := range rows {
				if len(row) != 0 {
					t.Error(k, row)
				}
			}
		}
	}
}

// unparted asks whether Cut tells an error, and nothing beside it.
func unparted(t *testing.T, b []byte, k int) {
	t.Helper()
	if rows, e := strip.Cut(b, k); e != api.ErrArg || len(rows) != 0 {
		t.Errorf("%d bytes, %d rows: %d rows %d", len(b), k, len(rows), e)
	}
}

func TestCutOfTooManyBytes(t *testing.T) {
	for _, long := range []int{65536, 65537, 65790, 65791, 131071, 131072, 1 << 20, 1<<24 + 1} {
		b := make([]byte, long)
		for _, k := range slices.Concat(thresholds, wrongThresholds) {
			unparted(t, b, k)
		}
	}
}

func TestCutToThresholdsThatAreNone(t *testing.T) {
	for _, long := range []int{0, 1, 2, 5, 255, 256, 257, 65535} {
		b := some(long, 1)
		for _, k := range wrongThresholds {
			unparted(t, b, k)
		}
	}
	for _, k := range wrongThresholds {
		unparted(t, nil, k)
	}
}
