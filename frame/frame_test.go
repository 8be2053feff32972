package frame_test

import (
	"bytes"
	"slices"
	"testing"

	"hourglass/api"
	"hourglass/frame"
	"hourglass/size"
)

// The calls, as the chapter has them.
var (
	_ func(s frame.Start, n int, layers [][]byte, ks []int) ([][]byte, api.Errno)                                               = frame.With
	_ func(s frame.Start, b size.Bounds, weights []int, layers ...api.Layer) (table []api.Row, datagrams [][]byte, e api.Errno) = frame.Make
	_ func(datagrams ...[]byte) (layers [][]byte, h api.Head, e api.Errno)                                                      = frame.Read
	_                                                                                                                           = frame.Start{Stream: 1, Frame: 2, Deadline: 3}
)

func TestLimitsAndErrorsByTheirNumbers(t *testing.T) {
	if api.MaxStream != 65535 || api.MaxFrame != 2147483647 || api.MaxN != 255 || api.MaxLayers != 8 || api.MaxLayer != 65535 || api.MaxWorth != 1048576 || api.One != 65536 {
		t.Error(api.MaxStream, api.MaxFrame, api.MaxN, api.MaxLayers, api.MaxLayer, api.MaxWorth, api.One)
	}
	if api.MinMTU != 64 || api.MaxMTU != 1500 || api.MaxBudget != 524288 {
		t.Error(api.MinMTU, api.MaxMTU, api.MaxBudget)
	}
	if api.OK != 0 || api.ErrArg != 2 || api.ErrShape != 4 || api.ErrNone != 5 || api.ErrTwice != 9 || api.ErrSum != 10 || api.ErrVersion != 11 || api.ErrInfeasible != 12 || api.ErrOdd != 13 {
		t.Error(api.OK, api.ErrArg, api.ErrShape, api.ErrNone, api.ErrTwice, api.ErrSum, api.ErrVersion, api.ErrInfeasible, api.ErrOdd)
	}
}

func TestExample(t *testing.T) {
	layers := [][]byte{some(40, 1), some(60, 2)}
	table, l, e := frame.Make(start, bounds, []int{7, 7, 7, 7, 7}, api.Layer{Bytes: layers[0], Worth: 1}, api.Layer{Bytes: layers[1], Worth: 1})
	if e != api.OK || !slices.Equal(table, rows(4, 40, 4, 60)) || len(l) != 4 {
		t.Fatal(table, len(l), e)
	}
	for index, b := range l {
		if len(b) != 49 {
			t.Error(index, len(b))
		}
	}
	for out := range l {
		three := slices.Delete(slices.Clone(l), out, out+1)
		if had, h, e := frame.Read(three...); e != api.OK || len(had) != 0 || h.Index != max(0, 1-out) || !slices.Equal(h.Rows, table) {
			t.Error(out, had, h, e)
		}
	}
	had, h, e := frame.Read(l...)
	if e != api.OK || !same(had, layers) || h.Stream != start.Stream || h.Frame != start.Frame || h.Deadline != start.Deadline || h.N != 4 || h.Index != 0 {
		t.Error(had, h, e)
	}
}

// The example of chapter 10, byte by byte.
func TestThatIsWrittenOut(t *testing.T) {
	l, e := frame.With(frame.Start{Stream: 1, Frame: 2, Deadline: 3}, 3, [][]byte{{5}, {7, 8}}, []int{1, 2})
	if e != api.OK || len(l) != 3 {
		t.Fatal(l, e)
	}
	for index, body := range [][]byte{{5, 7}, {5, 8}, {5, 25}} {
		want := seal(append([]byte{1, 0, 1, 0, 0, 0, 2, byte(index), 3, 2, 0, 0, 0, 3, 1, 0, 1, 2, 0, 2}, body...))
		if !bytes.Equal(l[index], want) {
			t.Error(index, l[index], want)
		}
		had, h, e := frame.Read(want)
		if e != api.OK || !same(had, [][]byte{{5}}) || h.Index != index {
			t.Error(index, had, h, e)
		}
	}
	had, h, e := frame.Read(l[2], l[0])
	if e != api.OK || !same(had, [][]byte{{5}, {7, 8}}) || !like(h, api.Head{Stream: 1, Frame: 2, N: 3, Deadline: 3, Rows: rows(1, 1, 2, 2)}) || h.Index != 2 {
		t.Error(had, h, e)
	}
	if had, h, e := frame.Read(); e != 5 || had != nil || h.Rows != nil {
		t.Error(had, h, e)
	}
}
