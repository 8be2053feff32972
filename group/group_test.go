package group_test

import (
	"bytes"
	"math"
	"reflect"
	"slices"
	"testing"

	"hourglass/api"
	"hourglass/group"
)

// By the bytes that are written out in the chapters.
func TestExample(t *testing.T) {
	for _, index := range []int{0, 1, 2} {
		g, e := group.New(example(index))
		if e != api.OK || g.Ready() != 0 || g.Whole() || len(g.Layers()) != 0 || g.Head().Index != 0 {
			t.Fatal(index, e)
		}
		if e := g.Take(example(2), []byte{5, 25}); e != api.OK || !same(g.Layers(), [][]byte{{5}}) || g.Ready() != 1 || g.Whole() || g.Bytes() != 2 || g.Came() != 1 {
			t.Error(e, g.Layers(), g.Ready(), g.Whole(), g.Bytes(), g.Came())
		}
		if e := g.Take(example(0), []byte{5, 7}); e != api.OK || !same(g.Layers(), [][]byte{{5}, {7, 8}}) || g.Ready() != 2 || !g.Whole() || g.Bytes() != 4 || g.Came() != 2 {
			t.Error(e, g.Layers(), g.Ready(), g.Whole(), g.Bytes(), g.Came())
		}
		if !slices.Equal(g.Indexes(), []int{0, 2}) {
			t.Error(g.Indexes())
		}
	}
	if h := example(0); !same(bodies(h.N, h.Rows, [][]byte{{5}, {7, 8}}), [][]byte{{5, 7}, {5, 8}, {5, 25}}) {
		t.Error("the test's own bodies are wrong")
	}
}

func TestErrorsByTheirNumbers(t *testing.T) {
	if api.OK != 0 || api.ErrNil != 1 || api.ErrArg != 2 || api.ErrTwice != 9 || api.ErrOdd != 13 || api.MaxN != 255 || api.MaxLayers != 8 || api.MaxLayer != 65535 || api.MaxStream != 65535 || api.MaxFrame != 1<<31-1 {
		t.Error(api.OK, api.ErrNil, api.ErrArg, api.ErrTwice, api.ErrOdd, api.MaxN, api.MaxLayers, api.MaxLayer, api.MaxStream, api.MaxFrame)
	}
}

func TestCallsOfAGroup(t *testing.T) {
	var names []string
	for method := range reflect.TypeFor[*group.Group]().Methods() {
		names = append(names, method.Name)
	}
	slices.Sort(names)
	if !slices.Equal(names, []string{"Bytes", "Came", "Head", "Indexes", "Layers", "Ready", "Take", "Whole"}) { // others would panic of no group
		t.Error(names)
	}
}

// P17.1: which headers have groups.

func TestNewOfHeads(t *testing.T) {
	for _, h := range heads() {
		if !right(h) {
			t.Error("the test's own header is wrong", h)
		}
		for _, index := range []int{0, 1, h.N / 2, h.N - 2, h.N - 1, h.N, h.N + 1, -1, -h.N, 255, 256} {
			h.Index = index
			judged(t, h)
		}
	}
}

func TestNewOfEachNumber(t *testing.T) {
	for _, h := range heads() {
		for _, p := range parts() {
			for _, number := range p.may {
				x := h
				*p.of(&x) = number
				if !right(x) {
					t.Error("the test's own header is wrong", x)
				}
				judged(t, x)
			}
			for _, number := range p.none {
				x := h
				*p.of(&x) = number
				refused(t, x, p.name)
			}
		}
	}
	refused(t, api.Head{})
	refused(t, api.Head{Rows: rows(1, 1)})
	refused(t, api.Head{Frame: 1, Rows: rows(1, 1)})
	refused(t, api.Head{N: 1, Rows: rows(1, 1)})
	refused(t, api.Head{Frame: 1, N: 1})
	paired(t, api.Head{Frame: 1, N: 1, Rows: rows(1, 0)}).agrees()
}

func TestNewOfEachN(t *testing.T) {
	for n := -2; n <= 258; n++ {
		for _, k := range []int{0, 1, n - 1, n, n + 1, 255, 256} {
			for _, index := range []int{-1, 0, n - 1, n, n + 1, 255} {
				judged(t, api.Head{Stream: 1, Frame: 2, Index: index, N: n, Deadline: 3, Rows: rows(1, 1, k, 2)})
				judged(t, api.Head{Stream: 1, Frame: 2, Index: index, N: n, Deadline: 3, Rows: rows(k, 2)})
			}
		}
	}
}

func TestNewOfSoManyRows(t *testing.T) {
	for _, size := range []int{0, 1, 9, 65535} {
		for _, many := range []int{0, 1, 2, 7, 8, 9, 10, 16, 255, 256, 257, 264, 65536, 65537} {
			h := good()
			h.Rows = slices.Repeat(rows(3, size), many)
			if right(h) != (many >= 1 && many <= 8) {
				t.Error("the test's own header is wrong", many)
			}
			judged(t, h)
		}
	}
	for _, none := range [][]api.Row{nil, {}, make([]api.Row, 0, 9)} {
		h := good()
		h.Rows = none
		refused(t, h)
	}
}

func TestNewOfThresholds(t *testing.T) {
	for n := 1; n <= 4; n++ {
		for a := -1; a <= n+2; a++ {
			for b := -1; b <= n+2; b++ {
				for c := -1; c <= n+2; c++ {
					judged(t, api.Head{Stream: 1, Frame: 2, N: n, Deadline: 3, Rows: rows(a, 5, b, 6, c, 7)})
				}
			}
		}
	}
	for place := range 3 {
		for _, k := range slices.Concat(far, []int{0, 6, 255, 256, 257, 258, 65537, 65538, 1<<31 - 1}) {
			h := api.Head{Stream: 1, Frame: 2, N: 5, Deadline: 3, Rows: rows(2, 5, 2, 6, 2, 7)}
			h.Rows[place].K = k
			refused(t, h, place, k)
		}
	}
}

func TestNewOfLengths(t *testing.T) {
	for many := 1; many <= 8; many++ {
		for place := range many {
			for _, size := range []int{0, 1, 2, 255, 256, 65534, 65535} {
				h := good()
				h.Rows = slices.Repeat(rows(2, 3), many)
				h.Rows[place].Len = size
				paired(t, h).agrees()
			}
			for _, size := range slices.Concat(far, []int{65536, 65537, 65791, 131072, 1<<31 - 1}) {
				h := good()
				h.Rows = slices.Repeat(rows(2, 3), many)
				h.Rows[place].Len = size
				refused(t, h, place, size)
			}
		}
	}
}

// P17.3 and R5: of no group, and of one that New did not answer.

func TestOfNoGroup(t *testing.T) {
	for name, g := range map[string]*group.Group{"nil": nil, "new": new(group.Group), "none": {}} {
		for range 2 {
			for _, h := range append(heads(), api.Head{}, api.Head{N: 1}, api.Head{Index: -1}, api.Head{Stream: math.MinInt, Frame: math.MaxInt, Index: math.MaxInt, N: math.MinInt, Deadline: math.MinInt, Rows: rows(math.MinInt, math.MaxInt)}) {
				for _, body := range [][]byte{nil, {}, {1}, {5, 25}} {
					if e := g.Take(h, body); e != api.ErrNil {
						t.Error(name, h, body, e)
					}
				}
				if right(h) {
					if e := g.Take(h, some(long(h.Rows), 1)); e != api.ErrNil {
						t.Error(name, h, e)
					}
				}
			}
			if h := g.Head(); h.Rows != nil || !like(h, api.Head{}) || h.Index != 0 {
				t.Error(name, h)
			}
			if g.Came() != 0 || g.Bytes() != 0 || g.Whole() || g.Ready() != 0 || len(g.Indexes()) != 0 || len(g.Layers()) != 0 {
				t.Error(name, g.Came(), g.Bytes(), g.Whole(), g.Ready(), g.Indexes(), g.Layers())
			}
		}
	}
}

// What New tells beside an error is no group: all its calls answer as those of none.
func TestOfWhatWasRefused(t *testing.T) {
	h := example(3)
	g, e := group.New(h)
	if e != api.ErrArg || g != nil || g.Take(example(0), []byte{5, 7}) != api.ErrNil || g.Whole() || g.Came() != 0 || g.Layers() != nil || g.Indexes() != nil {
		t.Error(e, g != nil)
	}
}

// Two groups of one header are two.
func TestGroupsApart(t *testing.T) {
	a, b := paired(t, example(0)), paired(t, example(0))
	a.takes(0, []byte{5, 7})
	a.agrees()
	b.agrees()
	b.takes(2, []byte{9, 25})
	b.takes(0, []byte{8, 1})
	a.agrees()
	b.agrees()
	a.takes(2, []byte{5, 25})
	a.agrees()
	if !bytes.Equal(a.Layers()[1], []byte{7, 8}) || bytes.Equal(b.Layers()[1], []byte{7, 8}) {
		t.Error(a.Layers(), b.Layers())
	}
}
