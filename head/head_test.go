package head_test

import (
	"bytes"
	"math"
	"slices"
	"testing"

	"hourglass/api"
	"hourglass/head"
)

// The calls, as the chapter has them.
var (
	_ func(h api.Head) bool                                 = head.Right
	_ func(a, b api.Head) bool                              = head.Like
	_ func(h api.Head, body []byte) ([]byte, api.Errno)     = head.Put
	_ func(b []byte) (h api.Head, body []byte, e api.Errno) = head.Parse
)

func TestLimitsAndErrorsByTheirNumbers(t *testing.T) {
	if api.MaxStream != 65535 || api.MaxFrame != 2147483647 || api.MaxN != 255 || api.MaxLayers != 8 || api.MaxLayer != 65535 {
		t.Error(api.MaxStream, api.MaxFrame, api.MaxN, api.MaxLayers, api.MaxLayer)
	}
	if api.OK != 0 || api.ErrArg != 2 || api.ErrShape != 4 || api.ErrSum != 10 || api.ErrVersion != 11 {
		t.Error(api.OK, api.ErrArg, api.ErrShape, api.ErrSum, api.ErrVersion)
	}
}

func TestExample(t *testing.T) {
	h := api.Head{Stream: 1, Frame: 2, Index: 0, N: 1, Deadline: 3, Rows: []api.Row{{K: 1, Len: 1}}}
	ahead := []byte{1, 0, 1, 0, 0, 0, 2, 0, 1, 1, 0, 0, 0, 3, 1, 0, 1, 7}
	b, e := head.Put(h, []byte{7})
	if e != api.OK || len(b) != 22 || !bytes.Equal(b[:18], ahead) || !bytes.Equal(b, seal(ahead)) {
		t.Fatal(b, e)
	}
	again, body, e := head.Parse(b)
	if e != api.OK || !same(again, h) || !bytes.Equal(body, []byte{7}) {
		t.Error(again, body, e)
	}
}

// P14.1, Right

func TestRightHeaders(t *testing.T) {
	for i, h := range heads() {
		if !right(h) || !head.Right(h) {
			t.Error(i, h)
		}
	}
	if head.Right(api.Head{}) || head.Right(api.Head{Frame: 1, N: 1}) || head.Right(api.Head{Frame: 1, N: 1, Rows: []api.Row{}}) || head.Right(api.Head{Rows: rows(1, 1)}) {
		t.Error("of noughts")
	}
}

func TestRightOfEachNumber(t *testing.T) {
	for _, base := range heads() {
		for _, p := range parts() {
			for _, n := range slices.Concat(far, p.none) {
				h := base
				if *p.of(&h) = n; right(h) || head.Right(h) {
					t.Error(p.name, n, h)
				}
			}
			for _, n := range p.may {
				h := base
				if *p.of(&h) = n; !right(h) || !head.Right(h) {
					t.Error(p.name, n, h)
				}
			}
		}
	}
}

func TestRightOfTheEdges(t *testing.T) {
	h := good()
	for _, x := range []struct {
		of *int
		is map[int]bool
	}{
		{&h.Stream, map[int]bool{-1: false, 0: true, 65535: true, 65536: false}},
		{&h.Frame, map[int]bool{-1: false, 0: false, 1: true, 1<<31 - 1: true, 1 << 31: false}},
		{&h.Index, map[int]bool{-1: false, 0: true, 8: true, 9: false, 10: false}},
		{&h.N, map[int]bool{-1: false, 0: false, 1: false, 5: false, 7: false, 8: true, 9: true, 255: true, 256: false}},
		{&h.Deadline, map[int]bool{-1: false, 0: true, 1<<31 - 1: true, 1 << 31: false}},
		{&h.Rows[0].K, map[int]bool{-1: false, 0: false, 1: true, 2: true, 3: true, 4: false}},
		{&h.Rows[1].K, map[int]bool{1: false, 2: true, 3: true, 4: false}},
		{&h.Rows[3].K, map[int]bool{2: false, 3: true, 9: true, 10: false, 255: false}},
		{&h.Rows[3].Len, map[int]bool{-1: false, 0: true, 65535: true, 65536: false}},
	} {
		was := *x.of
		for n, is := range x.is {
			if *x.of = n; head.Right(h) != is {
				t.Error(n, h, "not", is)
			}
		}
		*x.of = was
	}
	if !head.Right(h) {
		t.Error(h)
	}
}

// Of each N, each Index near its ends.
func TestRightOfNAndIndex(t *testing.T) {
	for n := -3; n <= 300; n++ {
		for _, index := range []int{math.MinInt, -256, -2, -1, 0, 1, n / 2, n - 2, n - 1, n, n + 1, 254, 255, 256, 257, 65536, n + 1<<32, math.MaxInt} {
			for _, table := range [][]api.Row{rows(1, 4), rows(max(n, 1), 4), rows(1, 4, n, 4)} {
				judged(t, api.Head{Stream: 1, Frame: 1, Index: index, N: n, Deadline: 1, Rows: table})
			}
		}
	}
}

func TestRightOfSoManyRows(t *testing.T) {
	for _, many := range []int{0, 1, 2, 7, 8, 9, 10, 16, 255, 256, 257, 264, 65536, 65537, 65544} {
		for _, row := range []api.Row{{K: 1}, {K: 1, Len: 1}, {K: 2, Len: 65535}} {
			h := good()
			h.Rows = slices.Repeat([]api.Row{row}, many)
			if is := head.Right(h); is != (many >= 1 && many <= 8) {
				t.Error(many, row, is)
			}
		}
	}
	h := good()
	h.Rows = h.Rows[:0]
	judged(t, h)
}

func TestRightOfEachRow(t *testing.T) {
	steps := rows(10, 100, 20, 101, 30, 0, 40, 65535, 50, 1, 60, 60, 70, 71, 80, 999)
	for place := range steps {
		for _, n := range slices.Concat(far, []int{0, 1, 9, 10, 11, 19, 20, 21, 35, 40, 70, 71, 79, 80, 81, 99, 100, 101, 255, 256, 65534, 65535, 65536, 65537}) {
			h := api.Head{Stream: 1, Frame: 2, Index: 3, N: 80, Deadline: 4, Rows: slices.Clone(steps)}
			h.Rows[place].K = n
			judged(t, h)
			h.Rows[place].K, h.Rows[place].Len = steps[place].K, n
			judged(t, h)
			h.N = 79
			judged(t, h)
		}
	}
}

// P14.1, Like

func TestLikeItself(t *testing.T) {
	all := heads()
	for i, a := range all {
		held(t, a, copied(a), true)
		for j, b := range all {
			held(t, a, b, i == j)
		}
	}
}

func TestLikeButForIndex(t *testing.T) {
	for _, a := range heads() {
		for _, index := range slices.Concat(far, []int{0, 1, 2, a.N - 1, a.N, 255, 256}) {
			b := copied(a)
			b.Index = index
			held(t, a, b, true)
		}
	}
}

// One number is another one, however little, or however much: by each of its bits, and wholly.
func TestUnlikeInOneNumber(t *testing.T) {
	for _, a := range heads() {
		others := map[string]func(h *api.Head) *int{}
		for _, p := range parts() {
			if p.name != "Index" {
				others[p.name] = p.of
			}
		}
		for place := range a.Rows {
			others["K"+string(rune('0'+place))] = func(h *api.Head) *int { return &h.Rows[place].K }
			others["Len"+string(rune('0'+place))] = func(h *api.Head) *int { return &h.Rows[place].Len }
		}
		for name, of := range others {
			for bit := range 64 {
				b := copied(a)
				*of(&b) ^= 1 << bit
				if head.Like(a, b) || head.Like(b, a) {
					t.Error(name, bit, a)
				}
				b.Index++
				held(t, a, b, false)
			}
			for _, n := range far {
				b := copied(a)
				*of(&b) = n
				held(t, a, b, false)
				held(t, b, copied(b), true)
			}
		}
	}
}

func TestUnlikeInTheirRows(t *testing.T) {
	a := good()
	for name, table := range map[string][]api.Row{
		"none":                         nil,
		"the first one":                rows(2, 7),
		"one fewer":                    rows(2, 7, 3, 300, 3, 0),
		"one less":                     rows(3, 300, 3, 0, 8, 2),
		"one more":                     rows(2, 7, 3, 300, 3, 0, 8, 2, 8, 2),
		"one of noughts":               rows(2, 7, 3, 300, 3, 0, 8, 2, 0, 0),
		"one ahead":                    rows(2, 7, 2, 7, 3, 300, 3, 0, 8, 2),
		"two the other way round":      rows(2, 7, 3, 0, 3, 300, 8, 2),
		"all the other way round":      rows(8, 2, 3, 0, 3, 300, 2, 7),
		"numbers the other way round":  rows(7, 2, 300, 3, 0, 3, 2, 8),
		"lengths from one to the next": rows(2, 8, 3, 299, 3, 0, 8, 2),
		"of the same width":            rows(2, 8, 3, 300, 3, 0, 8, 2),
		"twice over":                   slices.Repeat(rows(2, 7, 3, 300, 3, 0, 8, 2), 2),
	} {
		b := good()
		b.Rows = table
		if like(a, b) || head.Like(a, b) || head.Like(b, a) {
			t.Error(name)
		}
	}
}

// Headers need not be right, and lists without elements are one.
func TestLikeOfAny(t *testing.T) {
	held(t, api.Head{}, api.Head{}, true)
	held(t, api.Head{Rows: []api.Row{}}, api.Head{Index: -7}, true)
	held(t, api.Head{Rows: rows(1, 1)[:0]}, api.Head{Rows: []api.Row{}}, true)
	held(t, api.Head{Rows: rows(0, 0)}, api.Head{}, false)
	held(t, api.Head{Rows: rows(-1, -1)}, api.Head{Rows: rows(-1, -1)}, true)
	held(t, api.Head{Stream: -1, N: 256, Rows: make([]api.Row, 300)}, api.Head{Stream: -1, N: 256, Index: 3, Rows: make([]api.Row, 300)}, true)
	held(t, api.Head{Rows: make([]api.Row, 300)}, api.Head{Rows: make([]api.Row, 44)}, false)
	held(t, api.Head{Stream: 1, Frame: 2}, api.Head{Stream: 2, Frame: 1}, false)
	held(t, api.Head{N: 1, Deadline: 2}, api.Head{N: 2, Deadline: 1}, false)
	held(t, api.Head{Frame: 3}, api.Head{Deadline: 3}, false)
}

// What stands behind rows is none of them.
func TestLikeOfRowsWithOthersBehindThem(t *testing.T) {
	a, b := good(), good()
	a.Rows = append(a.Rows, api.Row{K: 1, Len: 1})[:4]
	b.Rows = append(b.Rows, api.Row{K: 2, Len: 2})[:4]
	held(t, a, b, true)
	held(t, a, good(), true)
	a.Rows = a.Rows[:5]
	held(t, a, b, false)
}
