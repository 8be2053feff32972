package pack_test

import (
	"bytes"
	"math"
	"reflect"
	"slices"
	"testing"

	"hourglass/api"
	"hourglass/pack"
)

// ceiling is 256 to the size: the first number that is none of it.
func ceiling(size int) int {
	out := 1
	for range size {
		out *= 256
	}
	return out
}

// told is the bytes of a number by the words of the chapter alone: so many, the highest first.
func told(n, size int) []byte {
	var out []byte
	for unit := ceiling(size) / 256; unit > 0; unit /= 256 {
		out = append(out, byte(n/unit%256))
	}
	return out
}

// some is so many bytes, by a rule.
func some(size, seed int) []byte {
	out, state := make([]byte, size), uint32(seed)*2654435761+12345
	for i := range out {
		state = state*1664525 + 1013904223
		out[i] = byte(state >> 24)
	}
	return out
}

// numbers are some of a size: the least, the greatest, those about each byte's edges, and others.
func numbers(size int) []int {
	top := ceiling(size)
	out := []int{0, 1, 2, 127, 128, 254, 255, top - 2, top - 1, top / 2, top/2 - 1, top / 3}
	for less := range size {
		edge := ceiling(less)
		out = append(out, edge-1, edge, edge+1, 255*edge, 254*edge+edge/2, top-edge)
	}
	for _, x := range some(200, size) {
		out = append(out, (int(x)*16777619+out[len(out)-1]*31)%top)
	}
	for _, n := range out {
		if n < 0 || n >= top {
			panic("the test's own numbers are wrong")
		}
	}
	return out
}

// sizes are such as are none: below 1, above 4, and those that others become when they are cut.
func sizes() []int {
	out := []int{math.MinInt, math.MinInt + 1, -1 << 61, -1 << 32, 1 - 1<<32, math.MinInt32, -256, -255, -254, -64, -32, -16, -8, -5, 15, 16, 24, 31, 32, 33, 63, 64, 65, 100, 255, 256, 257, 258, 260, 65537, math.MaxInt32, 1 << 32, 1<<32 + 1, 1<<32 + 4, 1 << 60, 1<<60 + 1, 1 << 61, 1<<61 + 1, 1<<61 + 2, 1<<62 + 4, math.MaxInt - 1, math.MaxInt}
	for size := -4; size <= 9; size++ {
		if size < 1 || size > 4 {
			out = append(out, size)
		}
	}
	return out
}

// written asks what a writer has.
func written(t *testing.T, w *pack.Writer, want []byte, what ...any) {
	t.Helper()
	for range 2 { // to tell it changes nothing
		if b, e := w.Bytes(); e != api.OK || !bytes.Equal(b, want) {
			t.Error(append(what, b, e, want)...)
		}
	}
}

// ruined asks whether a writer is broken by an error.
func ruined(t *testing.T, w *pack.Writer, want api.Errno, what ...any) {
	t.Helper()
	if b, e := w.Bytes(); e != want || b != nil {
		t.Error(append(what, b, e, want)...)
	}
}

func TestExample(t *testing.T) {
	w := pack.New()
	w.Number(258, 2)
	written(t, w, []byte{1, 2})
	b, _ := w.Bytes()
	r := pack.Over(b)
	if r.Number(1) != 1 || r.Number(1) != 2 || r.Left() != 0 || r.End() != api.OK {
		t.Error(r.Left(), r.End())
	}
}

func TestErrorsByTheirNumbers(t *testing.T) {
	if api.OK != 0 || api.ErrNil != 1 || api.ErrArg != 2 || api.ErrShape != 4 {
		t.Error(api.OK, api.ErrNil, api.ErrArg, api.ErrShape)
	}
}

// P8.1

func TestAWriterHasNoBytesAtFirst(t *testing.T) {
	w := pack.New()
	if w == nil {
		t.Fatal("no writer")
	}
	written(t, w, nil)
	for _, none := range [][]byte{nil, {}, some(5, 1)[:0], some(5, 1)[5:]} {
		w.Put(none)
		written(t, w, nil)
	}
}

func TestWrittenBytesThatAreWrittenOut(t *testing.T) {
	for _, x := range []struct {
		n, size int
		b       []byte
	}{
		{0, 1, []byte{0}}, {0, 2, []byte{0, 0}}, {0, 3, []byte{0, 0, 0}}, {0, 4, []byte{0, 0, 0, 0}},
		{1, 1, []byte{1}}, {1, 2, []byte{0, 1}}, {1, 3, []byte{0, 0, 1}}, {1, 4, []byte{0, 0, 0, 1}},
		{255, 1, []byte{255}}, {255, 2, []byte{0, 255}}, {256, 2, []byte{1, 0}}, {256, 3, []byte{0, 1, 0}}, {256, 4, []byte{0, 0, 1, 0}},
		{65535, 2, []byte{255, 255}}, {65535, 3, []byte{0, 255, 255}}, {65536, 3, []byte{1, 0, 0}}, {65536, 4, []byte{0, 1, 0, 0}},
		{0xFFFFFF, 3, []byte{255, 255, 255}}, {0xFFFFFF, 4, []byte{0, 255, 255, 255}}, {0x1000000, 4, []byte{1, 0, 0, 0}},
		{0x7FFFFFFF, 4, []byte{127, 255, 255, 255}}, {0x80000000, 4, []byte{128, 0, 0, 0}}, {0xFFFFFFFF, 4, []byte{255, 255, 255, 255}},
		{0x12, 1, []byte{0x12}}, {0x1234, 2, []byte{0x12, 0x34}}, {0x123456, 3, []byte{0x12, 0x34, 0x56}}, {0x12345678, 4, []byte{0x12, 0x34, 0x56, 0x78}},
	} {
		w := pack.New()
		w.Number(x.n, x.size)
		written(t, w, x.b, x.n, x.size)
		r := pack.Over(x.b)
		if n := r.Number(x.size); n != x.n || r.Left() != 0 || r.End() != api.OK {
			t.Error(x, n)
		}
	}
}

func TestNumbersOfEachSize(t *testing.T) {
	for size := 1; size <= 4; size++ {
		for _, n := range numbers(size) {
			w := pack.New()
			w.Number(n, size)
			written(t, w, told(n, size), n, size)
		}
	}
}

func TestNumbersThatAreNoneOfTheirSize(t *testing.T) {
	for size := 1; size <= 4; size++ {
		top := ceiling(size)
		wrong := []int{-1, -2, -127, -128, -255, -256, -257, -top, -top - 1, 1 - top, top, top + 1, top + 255, 2*top - 1, 2 * top, 3*top + 5, 1 << 32, 1<<32 + 1, 1 << 33, 1 << 40, 1<<56 + 1, 1 << 62, math.MaxInt - 1, math.MaxInt, math.MinInt, math.MinInt + 1, math.MinInt + 255, math.MinInt32, -1 << 32, 1 - 1<<32, -1 << 40, -1<<40 + 1}
		for _, n := range wrong {
			w := pack.New()
			w.Number(n, size)
			ruined(t, w, api.ErrArg, n, size)
			w = pack.New()
			w.Number(top-1, size)
			w.Number(n, size)
			ruined(t, w, api.ErrArg, "behind others", n, size)
		}
		for bit := 8 * size; bit < 64; bit++ {
			w := pack.New()
			w.Number(int(uint64(1)<<bit|1), size)
			ruined(t, w, api.ErrArg, bit, size)
		}
	}
}

func TestNumbersOfSizesThatAreNone(t *testing.T) {
	for _, size := range sizes() {
		for _, n := range []int{0, 1, 255, 256, 1<<32 - 1, 1 << 32, -1, math.MinInt, math.MaxInt} {
			w := pack.New()
			w.Number(n, size)
			ruined(t, w, api.ErrArg, n, size)
			w = pack.New()
			w.Put([]byte{1, 2, 3})
			w.Number(n, size)
			ruined(t, w, api.ErrArg, "behind others", n, size)
		}
	}
}

func TestPutBehindOneAnother(t *testing.T) {
	w, want := pack.New(), []byte(nil)
	for i := range 300 {
		size := i%4 + 1
		all := numbers(size)
		n := all[i%len(all)]
		w.Number(n, size)
		want = append(want, told(n, size)...)
		b := some(i%7, i)
		w.Put(b)
		want = append(want, b...)
		written(t, w, want, i)
	}
}

func TestPutMany(t *testing.T) {
	big := some(1<<20+3, 1)
	w := pack.New()
	w.Put(big)
	written(t, w, big, "at once")
	w = pack.New()
	for place := range 70000 {
		w.Put(big[place : place+1])
	}
	written(t, w, big[:70000], "one by one")
	w = pack.New()
	for _, b := range big[:70000] {
		w.Number(int(b), 1)
	}
	written(t, w, big[:70000], "as numbers")
}

// breaks are the calls that break a writer.
func breaks() map[string]func(w *pack.Writer) {
	return map[string]func(w *pack.Writer){
		"below 0":   func(w *pack.Writer) { w.Number(-1, 2) },
		"too great": func(w *pack.Writer) { w.Number(256, 1) },
		"of size 0": func(w *pack.Writer) { w.Number(0, 0) },
		"of size 5": func(w *pack.Writer) { w.Number(0, 5) },
	}
}

func TestABrokenWriterStaysBroken(t *testing.T) {
	for name, spoils := range breaks() {
		for _, first := range [][]byte{nil, {7}, some(100, 3)} {
			w := pack.New()
			w.Put(first)
			spoils(w)
			ruined(t, w, api.ErrArg, name)
			ruined(t, w, api.ErrArg, name, "asked again")
			w.Number(1, 1)
			ruined(t, w, api.ErrArg, name, "then a number")
			w.Number(1<<32-1, 4)
			ruined(t, w, api.ErrArg, name, "then a great number")
			w.Put([]byte{1, 2, 3})
			ruined(t, w, api.ErrArg, name, "then bytes")
			w.Put(nil)
			ruined(t, w, api.ErrArg, name, "then none")
			for again, more := range breaks() {
				more(w)
				ruined(t, w, api.ErrArg, name, again)
			}
		}
	}
}

// One that is broken breaks no other one.
func TestWritersAreTheirOwn(t *testing.T) {
	one, two, three := pack.New(), pack.New(), pack.New()
	one.Number(1, 1)
	two.Number(2, 2)
	three.Number(3, 3)
	two.Number(-1, 1)
	one.Put([]byte{9})
	three.Put([]byte{8})
	written(t, one, []byte{1, 9})
	ruined(t, two, api.ErrArg)
	written(t, three, []byte{0, 0, 3, 8})
	written(t, pack.New(), nil)
}

// P8.3

func TestNoWriter(t *testing.T) {
	for name, w := range map[string]*pack.Writer{"nil": nil, "not of New": new(pack.Writer)} {
		ask := func() {
			t.Helper()
			ruined(t, w, api.ErrNil, name)
		}
		ask()
		for _, size := range append(sizes(), 1, 2, 3, 4) {
			for _, n := range []int{0, 1, -1, 256, math.MinInt, math.MaxInt} {
				w.Number(n, size)
				ask()
			}
		}
		for _, b := range [][]byte{nil, {}, {1}, some(1000, 1)} {
			w.Put(b)
			ask()
		}
	}
}

func TestNoReader(t *testing.T) {
	for name, r := range map[string]*pack.Reader{"nil": nil, "not of Over": new(pack.Reader)} {
		ask := func() {
			t.Helper()
			if r.Left() != 0 || r.End() != api.ErrNil {
				t.Error(name, r.Left(), r.End())
			}
		}
		ask()
		for _, size := range append(sizes(), 1, 2, 3, 4) {
			if n := r.Number(size); n != 0 {
				t.Error(name, size, n)
			}
			ask()
			if b := r.Take(size); b != nil {
				t.Error(name, size, b)
			}
			ask()
		}
	}
}

func TestCalls(t *testing.T) {
	for of, want := range map[reflect.Type][]string{reflect.TypeFor[*pack.Writer](): {"Bytes", "Number", "Put"}, reflect.TypeFor[*pack.Reader](): {"End", "Left", "Number", "Take"}} {
		var names []string
		for method := range of.Methods() {
			names = append(names, method.Name)
		}
		slices.Sort(names)
		if !slices.Equal(names, want) { // others would panic of none
			t.Error(of, names)
		}
	}
}
