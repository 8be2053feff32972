package head_test

import (
	"bytes"
	"slices"
	"testing"

	"hourglass/api"
	"hourglass/head"
)

// P14.3

func TestParseOfFewBytes(t *testing.T) {
	for size := range 4 {
		for _, b := range [][]byte{make([]byte, size), some(size, 1), bytes.Repeat([]byte{1}, size), bytes.Repeat([]byte{0xFF}, size), some(9, 2)[9-size:]} {
			fails(t, b, api.ErrShape, size)
		}
	}
	fails(t, nil, api.ErrShape)
	fails(t, []byte{0, 0, 0, 0}, api.ErrShape, "nothing, sealed")
	fails(t, seal(nil), api.ErrShape, "nothing, sealed")
	fails(t, []byte{0, 0, 0, 1}, api.ErrSum)
	fails(t, []byte{1, 0, 0, 0}, api.ErrSum)
	fails(t, some(4, 1), api.ErrSum)
}

func TestParseOfOneByte(t *testing.T) {
	for b := range 256 {
		want := api.ErrVersion
		if b == 1 {
			want = api.ErrShape
		}
		fails(t, seal([]byte{byte(b)}), want, b)
	}
}

func TestParseOfEachVersion(t *testing.T) {
	for _, h := range small() {
		b := plain(h, whole(h, 1))
		for version := range 256 {
			b[0] = byte(version)
			want := api.ErrVersion
			if version == 1 {
				want = api.OK
			}
			fails(t, seal(b), want, version)
			fails(t, b, api.ErrSum, version, "not sealed")
			if version != 1 { // the version counts ahead of what stands behind it
				fails(t, seal(b[:len(b)-1]), want, version, "cut off")
				fails(t, seal(append(bytes.Clone(b), 0)), want, version, "longer")
				fails(t, seal(slices.Concat(b[:9], []byte{0}, b[10:])), want, version, "without rows")
			}
		}
	}
}

// The errors come in the chapter's order: each of these has all the faults of those behind it, as far as it can.
func TestParseInOrder(t *testing.T) {
	fails(t, []byte{2, 0, 0}, api.ErrShape, "too few bytes, which are not sealed, of another version")
	fails(t, []byte{2, 0, 0, 0, 0}, api.ErrSum, "not sealed, of another version, and cut off")
	fails(t, slices.Concat([]byte{2}, seal([]byte{1})), api.ErrSum, "not sealed, of another version, and cut off")
	fails(t, []byte{0, 0, 0, 0}, api.ErrShape, "nothing")
	fails(t, seal([]byte{2}), api.ErrVersion, "of another version, and cut off")
	fails(t, seal([]byte{0, 1}), api.ErrVersion, "of another version, and cut off")
	fails(t, seal([]byte{1}), api.ErrShape, "cut off")
	if h, body, e := head.Parse(seal([]byte{2, 1, 1})); e != 11 || !same(h, api.Head{}) || body != nil {
		t.Error(h, body, e)
	}
}

func TestParseOfBytesCutOff(t *testing.T) {
	for _, h := range small() {
		b := plain(h, whole(h, 3))
		for size := range b {
			fails(t, seal(b[:size]), api.ErrShape, size, "of", len(b))
		}
		sealed := seal(b)
		fails(t, sealed, api.OK)
		for size := 4; size < len(sealed); size++ {
			fails(t, sealed[:size], api.ErrSum, size, "of", len(sealed), "not sealed again")
		}
		for from := 1; from < len(b); from++ {
			parsed(t, seal(b[from:]))
			parsed(t, sealed[from:])
		}
	}
}

func TestParseOfLongerBytes(t *testing.T) {
	for _, h := range small() {
		b := plain(h, whole(h, 4))
		for more := range 256 {
			fails(t, seal(append(bytes.Clone(b), byte(more))), api.ErrShape, more)
		}
		for _, more := range []int{2, 3, 4, 18, 256, 65536} {
			fails(t, seal(slices.Concat(b, make([]byte, more))), api.ErrShape, more)
			fails(t, seal(slices.Concat(b, some(more, more))), api.ErrShape, more)
		}
		fails(t, seal(slices.Concat(b, b)), api.ErrShape, "twice")
		fails(t, seal(seal(b)), api.ErrShape, "sealed twice")
		fails(t, append(seal(b), 0), api.ErrSum, "with a byte behind the seal")
	}
}

// A byte more, or less, at any place.
func TestParseOfOneByteMoreOrLess(t *testing.T) {
	for _, h := range small() {
		b := plain(h, whole(h, 5))
		for at := range b {
			parsed(t, seal(slices.Delete(bytes.Clone(b), at, at+1)))
			for _, more := range []byte{0, 1, b[at], 255} {
				parsed(t, seal(slices.Insert(bytes.Clone(b), at, more)))
			}
		}
	}
}

// Each byte ahead of the body is each other one, each of the body's some other ones: sealed again, and not.
func TestParseOfOneByteTurned(t *testing.T) {
	for _, h := range small() {
		b := plain(h, whole(h, 6))
		for at := range b {
			was := b[at]
			for turn := 1; turn < 256; turn++ {
				if ahead := 14 + 3*len(h.Rows); at >= ahead && turn&(turn-1) != 0 {
					continue
				}
				b[at] = was ^ byte(turn)
				e := parsed(t, seal(b))
				if at >= 14+3*len(h.Rows) && e != api.OK || at == 0 && e != api.ErrVersion {
					t.Error(at, turn, e)
				}
			}
			b[at] = was
		}
	}
}

func TestParseOfOneByteTurnedAndNotSealed(t *testing.T) {
	for _, h := range small() {
		b := put(t, h, whole(h, 7))
		for at := range b {
			was := b[at]
			for turn := 1; turn < 256; turn++ {
				if turn&(turn-1) == 0 || turn == 255 || len(b) < 60 {
					b[at] = was ^ byte(turn)
					fails(t, b, api.ErrSum, at, turn)
				}
			}
			b[at] = was
		}
		parsed(t, b)
	}
}

// A number of four bytes whose first bit is set is none that a header has.
func TestParseOfGreatNumbers(t *testing.T) {
	ahead := func(frame, deadline int) []byte {
		h := api.Head{Stream: 1, Frame: frame, Index: 0, N: 1, Deadline: deadline, Rows: rows(1, 1)}
		return seal(plain(h, []byte{7}))
	}
	for _, n := range []int{1 << 31, 1<<31 + 1, 3 << 30, 0x80FFFFFF, 0xFF000001, 1<<32 - 2, 1<<32 - 1} {
		fails(t, ahead(n, 3), api.ErrShape, n)
		fails(t, ahead(2, n), api.ErrShape, n)
		fails(t, ahead(n, n), api.ErrShape, n)
	}
	fails(t, ahead(0, 0), api.ErrShape)
	fails(t, ahead(1<<31-1, 1<<31-1), api.OK)
	fails(t, ahead(1, 0), api.OK)
}

// Each number that a byte may be, where there is one byte: for Index and N together, for how many rows there are, for thresholds.
func TestParseOfEachByte(t *testing.T) {
	for index := range 256 {
		for _, n := range []int{0, 1, 2, index - 1, index, index + 1, 127, 128, 254, 255} {
			if n < 0 || n > 255 {
				continue
			}
			h := api.Head{Stream: 1, Frame: 2, Index: index, N: n, Deadline: 3, Rows: rows(1, 1)}
			want := api.ErrShape
			if index < n {
				want = api.OK
			}
			fails(t, seal(plain(h, []byte{7})), want, index, n)
		}
	}
	for k := range 256 {
		h := api.Head{Stream: 1, Frame: 2, Index: 3, N: 200, Deadline: 3, Rows: rows(100, 1, k, 1, 150, 1)}
		want := api.ErrShape
		if k >= 100 && k <= 150 {
			want = api.OK
		}
		fails(t, seal(plain(h, []byte{7, 8, 9})), want, k)
	}
}

// Of each of how many rows: they are there; they are there, but told to be one fewer, or one more.
func TestParseOfSoManyRows(t *testing.T) {
	for many := range 256 {
		for size := range 2 {
			h := api.Head{Stream: 1, Frame: 2, Index: 0, N: 1, Deadline: 3, Rows: slices.Repeat(rows(1, size), many)}
			b := plain(h, make([]byte, size*many))
			want := api.ErrShape
			if many >= 1 && many <= 8 {
				want = api.OK
			}
			fails(t, seal(b), want, many)
			for _, told := range []int{many - 1, many + 1, 0, 255} {
				if told != many {
					b[9] = byte(told)
					parsed(t, seal(b))
				}
			}
		}
	}
}

func TestParseOfBodiesOfAnotherSize(t *testing.T) {
	for _, h := range heads() {
		size := long(h.Rows)
		for _, other := range []int{0, 1, size - 1, size, size + 1, size + 2, 2*size + 1, size + 65536} {
			if other < 0 {
				continue
			}
			want := api.ErrShape
			if other == size {
				want = api.OK
			}
			fails(t, seal(plain(h, some(other, 8))), want, other, "not", size)
		}
	}
}

// Bytes of any sort, sealed and not, some of them with numbers that a header may have.
func TestParseOfAnyBytes(t *testing.T) {
	for seed := range 4000 {
		b := some(seed%90, seed)
		parsed(t, b)
		parsed(t, seal(b))
		if len(b) > 0 {
			b[0] = 1
			parsed(t, seal(b))
		}
		if len(b) > 10 {
			b[3], b[7], b[9], b[10] = b[3]&127, b[7]%8, b[9]%3, b[10]&127
			parsed(t, seal(b))
		}
	}
}

// Datagrams in which some bytes ahead of the body are others, such as make right headers, too.
func TestParseOfSomeBytesTurned(t *testing.T) {
	tally := map[api.Errno]int{}
	for seed, base := range slices.Repeat(small(), 400) {
		b := plain(base, whole(base, seed))
		dice := some(8, seed)
		for i := range int(dice[0])%3 + 1 {
			at := int(dice[2*i+1]) % min(len(b), 14+3*len(base.Rows))
			b[at] = []byte{0, 1, 2, b[at] + 1, b[at] - 1, 127, 128, 255, dice[2*i+2]}[int(dice[2*i+2])%9]
		}
		tally[parsed(t, seal(b))]++
	}
	if tally[api.OK] < 100 || tally[api.ErrShape] < 100 || tally[api.ErrVersion] < 10 {
		t.Error("the test's own bytes are too much alike", tally)
	}
}
