package strip_test

import (
	"bytes"
	"slices"
	"testing"

	"hourglass/api"
	"hourglass/strip"
)

// joined asks what rows are, together.
func joined(t *testing.T, rows [][]byte, want []byte) {
	t.Helper()
	if b, e := strip.Join(rows, len(want)); e != api.OK || !bytes.Equal(b, want) {
		t.Errorf("%d rows, %d bytes: %v %d", len(rows), len(want), b, e)
	}
}

// unjoined asks whether Join tells an error, and nothing beside it.
func unjoined(t *testing.T, rows [][]byte, long int, want api.Errno) {
	t.Helper()
	if b, e := strip.Join(rows, long); e != want || len(b) != 0 {
		t.Errorf("%d rows, %d bytes: %d bytes %d, not %d", len(rows), long, len(b), e, want)
	}
}

// even is so many rows, all as long.
func even(many, wide int) [][]byte {
	rows := make([][]byte, many)
	for i := range rows {
		rows[i] = some(wide, i)
	}
	return rows
}

// P9.2

func TestJoinOfEachLength(t *testing.T) {
	for k := 1; k <= 255; k++ {
		for _, long := range lengths(k) {
			if long < 2000 || slices.Contains(thresholds, k) {
				b := some(long, long+k)
				joined(t, cut(b, k, nought), b)
			}
		}
	}
	for long := range 300 {
		for _, k := range thresholds {
			b := some(long, k)
			joined(t, cut(b, k, nought), b)
		}
	}
}

// Whatever stands in the rows behind the first long bytes: it is not asked, and not answered.
func TestJoinWhateverStandsBehind(t *testing.T) {
	for _, k := range thresholds {
		for _, long := range lengths(k) {
			b := some(long, long)
			for _, behind := range []func(place int) byte{
				func(int) byte { return 1 },
				func(int) byte { return 255 },
				func(place int) byte { return byte(place) },
				func(place int) byte { return b[place%max(1, long)] },
			} {
				rows := cut(b, k, behind)
				joined(t, rows, b)
				out, _ := strip.Join(rows, long)
				for _, x := range out[len(out):cap(out)] {
					if x != 0 {
						t.Error("handed out behind them:", k, long)
					}
				}
			}
		}
	}
}

// Of the same rows so many bytes, as long as their width is that of the length.
func TestJoinOfTheSameRows(t *testing.T) {
	for _, k := range []int{1, 2, 3, 7, 254, 255} {
		for _, wide := range []int{0, 1, 2, 5, 200} {
			rows := even(k, wide)
			all := bytes.Join(rows, nil)
			for long := range k*wide + 2*k + 2 {
				if width(long, k) == wide {
					joined(t, rows, all[:long])
				} else {
					unjoined(t, rows, long, api.ErrShape)
				}
			}
		}
	}
}

func TestJoinOfNoRows(t *testing.T) {
	for _, none := range [][][]byte{nil, {}, even(3, 2)[:0], even(3, 2)[3:]} {
		for _, long := range slices.Concat(wrongLengths, []int{0, 1, 2, 255, 256, 65534, 65535}) {
			unjoined(t, none, long, api.ErrArg)
		}
	}
}

func TestJoinOfTooManyRows(t *testing.T) {
	for _, many := range []int{256, 257, 258, 510, 511, 512, 65536, 65537} {
		for _, wide := range []int{0, 1, 2} {
			rows := even(many, wide)
			for _, long := range slices.Concat(wrongLengths, []int{0, 1, 255, 256, many - 1, many, many * wide, 65535}) {
				unjoined(t, rows, long, api.ErrArg)
			}
		}
	}
}

// A length that is none counts ahead of rows that are not as long.
func TestJoinToLengthsThatAreNone(t *testing.T) {
	for _, long := range wrongLengths {
		for _, rows := range [][][]byte{{nil}, {{}}, {{1}}, {{}, {}}, {{1, 2}, {3, 4}}, {{1}, {2, 3}}, {{}, {1}}, even(1, 65535), even(1, 65536), even(1, 65537), even(2, 32768), even(2, 32769), even(255, 257), even(255, 258), make([][]byte, 255)} {
			unjoined(t, rows, long, api.ErrArg)
		}
	}
	unjoined(t, [][]byte{make([]byte, 65536)}, 65536, api.ErrArg)
	unjoined(t, [][]byte{make([]byte, 1<<20)}, 1<<20, api.ErrArg)
}

// Rows that are all as long, but not as the width is.
func TestJoinOfRowsOfAnotherWidth(t *testing.T) {
	for _, k := range thresholds {
		for _, long := range []int{0, 1, 2, 5, 254, 255, 256, 1000, 65535} {
			w := width(long, k)
			for _, other := range []int{0, 1, w - 2, w - 1, w + 1, w + 2, 2*w + 3, w + 256, w + 65536/k} {
				if other >= 0 && other != w {
					unjoined(t, even(k, other), long, api.ErrShape)
				}
			}
			joined(t, even(k, w), bytes.Join(even(k, w), nil)[:long])
		}
	}
}

// One row, at each place, is too short, or too long; in the last ones, too, of which no byte is asked.
func TestJoinOfRowsOfUnlikeLengths(t *testing.T) {
	for _, k := range []int{1, 2, 3, 7, 100, 255} {
		for _, long := range []int{0, 1, 2, k - 1, k, k + 1, 3*k - 1, 3 * k, 3*k + 1} {
			w := width(long, k)
			for place := range k {
				for _, other := range []int{0, w - 1, w + 1, w + 256, 2 * w, 65536} {
					if other < 0 || other == w {
						continue
					}
					rows := even(k, w)
					rows[place] = make([]byte, other)
					unjoined(t, rows, long, api.ErrShape)
				}
			}
		}
	}
}

// As many bytes in all as there should be, but not row by row.
func TestJoinOfRowsThatAreRightTogether(t *testing.T) {
	for _, x := range []struct {
		rows [][]byte
		long int
	}{
		{[][]byte{{1, 2, 3}, {4}}, 4}, {[][]byte{{1}, {2, 3, 4}}, 4}, {[][]byte{{1, 2, 3, 4}, {}}, 4}, {[][]byte{nil, {1, 2, 3, 4}}, 4}, {[][]byte{{1, 2, 3, 4}, nil}, 3},
		{[][]byte{{1, 2}, {3}}, 3}, {[][]byte{{1}, {2, 3}}, 3}, {[][]byte{{1}, {2}, {}}, 2}, {[][]byte{{1}, {}, {2}}, 2}, {[][]byte{{1, 2}, {3, 4, 5}, {6}}, 6}, {[][]byte{{1}, nil, nil}, 1}, {[][]byte{{1, 2}, {3, 4}, {}}, 4},
	} {
		unjoined(t, x.rows, x.long, api.ErrShape)
	}
}

func TestJoinOfEmptyRows(t *testing.T) {
	for k := 1; k <= 255; k++ {
		empty := make([][]byte, k)
		for i := range empty {
			if i%2 == 0 {
				empty[i] = []byte{}
			}
		}
		joined(t, empty, nil)
		for _, long := range []int{1, 2, k, 65535} {
			unjoined(t, empty, long, api.ErrShape)
		}
	}
}

// P9.3

func TestWhatIsCutIsJoined(t *testing.T) {
	for k := 1; k <= 255; k++ {
		for _, long := range lengths(k) {
			b := some(long, k)
			rows, e1 := strip.Cut(b, k)
			if out, e2 := strip.Join(rows, len(b)); e1 != api.OK || e2 != api.OK || !bytes.Equal(out, b) {
				t.Error(long, k, e1, e2)
			}
		}
	}
	for long := range 600 {
		for k := 1; k <= 255; k += 1 + long%3 {
			b := some(long, long)
			rows, e1 := strip.Cut(b, k)
			if out, e2 := strip.Join(rows, len(b)); e1 != api.OK || e2 != api.OK || !bytes.Equal(out, b) {
				t.Error(long, k, e1, e2)
			}
		}
	}
}

// Bytes that are noughts are bytes as others are.
func TestNoughtsAreJoined(t *testing.T) {
	for long := range 40 {
		for k := 1; k < 50; k++ {
			for place := range long + 1 {
				b := make([]byte, long)
				if place < long {
					b[place] = 9
				}
				rows, e1 := strip.Cut(b, k)
				if out, e2 := strip.Join(rows, long); e1 != api.OK || e2 != api.OK || !bytes.Equal(out, b) {
					t.Error(long, k, place, out, e1, e2)
				}
			}
		}
	}
}

func TestAGreaterThresholdHasNoGreaterWidth(t *testing.T) {
	for long := range 65536 {
		last := long + 1
		for k := 1; k <= 255; k++ {
			w, e := strip.Width(long, k)
			if e != api.OK || w > last {
				t.Fatal(long, k, w, last, e)
			}
			last = w
		}
	}
}

func TestRowsHaveFewerThanKMore(t *testing.T) {
	for k := 1; k <= 255; k++ {
		for _, long := range lengths(k) {
			rows, e := strip.Cut(some(long, 1), k)
			more := len(bytes.Join(rows, nil)) - long
			waste, f := strip.Waste(long, k)
			if e != api.OK || f != api.OK || more < 0 || more >= k || more != waste {
				t.Error(long, k, more, waste, e, f)
			}
			for _, row := range rows {
				if wide, e := strip.Width(long, k); e != api.OK || len(row) != wide {
					t.Error(long, k, len(row), wide, e)
				}
			}
		}
	}
}
