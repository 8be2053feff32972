package head_test

import (
	"bytes"
	"math"
	"slices"
	"testing"

	"hourglass/api"
	"hourglass/head"
)

// P14.2

func TestPutThatIsWrittenOut(t *testing.T) {
	for i, x := range []struct {
		h           api.Head
		body, ahead []byte
	}{
		{good(), some(4+100+0+1, 1), []byte{1, 0x12, 0x34, 0x23, 0x45, 0x67, 0x89, 5, 9, 4, 0x34, 0x56, 0x78, 0x9A, 2, 0, 7, 3, 1, 44, 3, 0, 0, 8, 0, 2}},
		{api.Head{Stream: 65535, Frame: 1<<31 - 1, Index: 254, N: 255, Deadline: 1<<31 - 1, Rows: rows(255, 65535)}, some(257, 2), []byte{1, 255, 255, 127, 255, 255, 255, 254, 255, 1, 127, 255, 255, 255, 255, 255, 255}},
		{api.Head{Stream: 0, Frame: 1, Index: 0, N: 1, Deadline: 0, Rows: rows(1, 0)}, nil, []byte{1, 0, 0, 0, 0, 0, 1, 0, 1, 1, 0, 0, 0, 0, 1, 0, 0}},
		{api.Head{Stream: 256, Frame: 1 << 24, Index: 1, N: 2, Deadline: 1 << 16, Rows: rows(1, 1, 2, 2)}, []byte{9, 8}, []byte{1, 1, 0, 1, 0, 0, 0, 1, 2, 2, 0, 1, 0, 0, 1, 0, 1, 2, 0, 2}},
		{api.Head{Stream: 1, Frame: 0xABCDEF, Index: 2, N: 8, Deadline: 0x7FEDCBA9, Rows: rows(1, 0, 2, 0, 3, 0, 4, 0, 5, 0, 6, 0, 7, 0, 8, 9)}, []byte{5, 6}, []byte{1, 0, 1, 0, 0xAB, 0xCD, 0xEF, 2, 8, 8, 0x7F, 0xED, 0xCB, 0xA9, 1, 0, 0, 2, 0, 0, 3, 0, 0, 4, 0, 0, 5, 0, 0, 6, 0, 0, 7, 0, 0, 8, 0, 9}},
	} {
		want := seal(slices.Concat(x.ahead, x.body))
		if b, e := head.Put(x.h, x.body); e != api.OK || !bytes.Equal(b, want) {
			t.Error(i, b, e)
		}
		if h, body, e := head.Parse(want); e != api.OK || !same(h, x.h) || !bytes.Equal(body, x.body) {
			t.Error(i, h, body, e)
		}
	}
}

func TestPutOfHeads(t *testing.T) {
	for i, h := range heads() {
		put(t, h, whole(h, i))
		put(t, h, make([]byte, long(h.Rows)))
		put(t, h, bytes.Repeat([]byte{0xFF}, long(h.Rows)))
	}
}

func TestPutOfEachNumber(t *testing.T) {
	for _, base := range small() {
		body := whole(base, 1)
		for _, p := range parts() {
			for _, n := range p.may {
				h := base
				*p.of(&h) = n
				put(t, h, body)
			}
			for _, n := range slices.Concat(far, p.none) {
				h := base
				*p.of(&h) = n
				refused(t, h, body)
			}
		}
	}
}

func TestPutOfEachIndex(t *testing.T) {
	for _, n := range []int{1, 2, 3, 128, 254, 255} {
		h := api.Head{Stream: 1, Frame: 2, N: n, Deadline: 3, Rows: rows(1, 1, n, 2*n)}
		for h.Index = range n {
			put(t, h, []byte{1, 2, 3})
		}
		for _, h.Index = range slices.Concat(far, []int{n, n + 1, 256, 256 + n - 1}) {
			refused(t, h, []byte{1, 2, 3})
		}
	}
}

func TestPutOfRowsThatAreNoTable(t *testing.T) {
	for name, table := range map[string][]api.Row{
		"none":                    nil,
		"empty":                   {},
		"nine":                    slices.Repeat(rows(1, 1), 9),
		"256":                     slices.Repeat(rows(1, 0), 256),
		"257":                     slices.Repeat(rows(1, 0), 257),
		"no threshold":            rows(0, 1),
		"below nothing":           rows(-1, 1),
		"above n":                 rows(10, 1),
		"above n, behind another": rows(1, 1, 10, 1),
		"one that is cut to 1":    rows(257, 1),
		"falling":                 rows(2, 1, 1, 1),
		"falling at the end":      rows(1, 1, 3, 1, 2, 1),
		"of -1 bytes":             rows(1, -1),
		"of 65536 bytes":          rows(1, 65536),
		"of 65537, behind":        rows(1, 1, 1, 65537),
		"of far fewer":            rows(1, math.MinInt),
		"of far more":             rows(1, math.MaxInt),
		"of a far threshold":      rows(1, 1, math.MaxInt, 1),
	} {
		h := good()
		h.Rows = table
		judged(t, h)
		for _, size := range []int{0, 1, 2, 3, 9, 17, 18, 27, 65536, 65537} {
			refused(t, h, some(size, 1))
		}
		if head.Right(h) {
			t.Error(name)
		}
	}
}

// A table may be one for another n.
func TestPutOfATableForAnotherN(t *testing.T) {
	h := api.Head{Stream: 1, Frame: 2, Index: 0, Deadline: 3, Rows: rows(1, 1, 4, 4)}
	for h.N = range 300 {
		if h.N >= 4 && h.N <= 255 {
			put(t, h, []byte{1, 2})
		} else {
			refused(t, h, []byte{1, 2})
		}
	}
}

func TestPutOfBodies(t *testing.T) {
	for _, h := range heads() {
		size := long(h.Rows)
		for _, other := range []int{0, 1, size - 2, size - 1, size, size + 1, size + 2, 2 * size, size + 256, size + 65536, size / 2} {
			switch {
			case other == size:
				put(t, h, some(other, 2))
			case other >= 0:
				refused(t, h, some(other, 2))
			}
		}
		if size > 0 {
			refused(t, h, nil)
			refused(t, h, []byte{})
		} else {
			put(t, h, nil)
			put(t, h, []byte{})
			put(t, h, some(5, 1)[5:])
		}
	}
}

// A body is as long as the widths, not as the lengths, nor as n would have it.
func TestPutOfWidths(t *testing.T) {
	for k := 1; k <= 9; k++ {
		for size := range 40 {
			h := api.Head{Stream: 1, Frame: 1, Index: 8, N: 9, Deadline: 1, Rows: rows(k, size, 9, size)}
			for body := range 60 {
				if body == width(size, k)+width(size, 9) {
					put(t, h, some(body, size))
				} else {
					refused(t, h, some(body, size))
				}
			}
		}
	}
}
