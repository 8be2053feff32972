package group_test

import (
	"bytes"
	"slices"
	"testing"

	"hourglass/api"
	"hourglass/group"
)

// R3: arguments stay as they were, with all memory behind them, and are not kept; what is told is new memory that lies apart.

// turn changes bytes, and those behind them.
func turn(b []byte) {
	b = b[:cap(b)]
	for i := range b {
		b[i] ^= 0xFF
	}
}

// turnAll changes a list's rows, one by one, and asks each time whether the others stay as they were.
func turnAll(t *testing.T, list [][]byte, what ...any) {
	t.Helper()
	was := make([][]byte, len(list))
	for place, b := range list {
		was[place] = bytes.Clone(b)
	}
	for place, b := range list {
		turn(b)
		turn(was[place])
		if !same(list, was) {
			t.Error(append(what, "shared", place)...)
			return
		}
	}
}

// roomy is a part of a longer list of bytes, and that list.
func roomy(b []byte) (part, back []byte) {
	back = slices.Concat([]byte{91, 92}, b, []byte{93, 94, 95, 96, 97, 98, 99})
	return back[2 : 2+len(b)], back
}

func TestHeadersStayAsTheyWere(t *testing.T) {
	for seed, h := range few() {
		behind := append(slices.Clone(h.Rows), rows(77, 78, 79, 80)...)
		was, list := slices.Clone(behind), noise(h.N, h.Rows, seed)
		of := h
		of.Rows = behind[:len(h.Rows)]
		p := paired(t, of)
		for index := range h.N {
			p.Take(at(of, index), list[index])
			p.Take(at(of, index), list[index])
			p.Take(at(of, index), nil)
			p.Take(at(of, h.N), list[index])
		}
		of.Rows = behind
		p.Take(of, list[0])
		group.New(of)
		p.Head()
		p.Ready()
		p.Layers()
		if !slices.Equal(behind, was) {
			t.Error(h, behind)
		}
	}
}

func TestHeadersAreNotKept(t *testing.T) {
	for seed, h := range few() {
		list := noise(h.N, h.Rows, seed)
		of := copied(h)
		p := paired(t, of)
		clear(of.Rows)
		p.agrees()
		for index := range h.N {
			x := at(copied(h), index)
			p.take(x, list[index])
			clear(x.Rows)
			p.agrees()
		}
		x := copied(h)
		p.fails(api.ErrTwice, x, list[h.Index])
		x.Rows[0].Len++
		p.fails(api.ErrOdd, x, list[h.Index])
	}
}

func TestTheHeaderThatIsToldIsNew(t *testing.T) {
	for seed, h := range few() {
		list := noise(h.N, h.Rows, seed)
		p := paired(t, h)
		for index := range h.N {
			one, two := p.Head(), p.Head()
			clear(one.Rows[:cap(one.Rows)])
			_ = append(two.Rows, rows(77, 78)...)
			one.Index, one.N, one.Deadline = 1, 2, 3
			if !like(two, h) || two.Index != 0 {
				t.Error(h, two)
			}
			p.takes(index, list[index])
			p.agrees()
		}
	}
}

func TestBodiesStayAsTheyWere(t *testing.T) {
	for seed, h := range few() {
		for _, other := range []int{-1, 0, 1} { // one that is too short, one that is held, one that is too long
			if long(h.Rows)+other < 0 {
				continue
			}
			part, back := roomy(some(long(h.Rows)+other, seed))
			was := bytes.Clone(back)
			p := paired(t, h)
			e := p.take(h, part)
			if f := p.take(h, part); other == 0 && (e != api.OK || f != api.ErrTwice) || other != 0 && (e != api.ErrArg || f != e) {
				t.Error(h, e, f)
			}
			p.agrees()
			if !bytes.Equal(back, was) {
				t.Error("changed", h)
			}
			for _, layer := range p.Layers() {
				turn(layer)
			}
			if !bytes.Equal(back, was) {
				t.Error("shared", h)
			}
		}
	}
}

func TestBodiesAreNotKept(t *testing.T) {
	for seed, h := range few() {
		layers := layered(h, seed)
		list := bodies(h.N, h.Rows, layers)
		p := paired(t, h)
		for came, index := range order(h.N, seed) {
			part, back := roomy(list[index])
			p.takes(index, part)
			turn(back)
			p.tells(enough(h, layers, came+1))
			p.fails(api.ErrTwice, at(h, index), part) // now of other bytes
			p.tells(enough(h, layers, came+1))
			clear(back)
			p.tells(enough(h, layers, came+1))
		}
	}
}

// One row of bytes, taken again and again, each time with others in it.
func TestOneRowForAllBodies(t *testing.T) {
	for seed, h := range few() {
		layers := layered(h, seed)
		list := bodies(h.N, h.Rows, layers)
		p, row := paired(t, h), make([]byte, long(h.Rows))
		for came, index := range order(h.N, seed) {
			copy(row, list[index])
			p.takes(index, row)
			p.tells(enough(h, layers, came+1))
		}
		clear(row)
		p.tells(layers)
	}
}

func TestLayersThatAreToldAreNew(t *testing.T) {
	for seed, h := range few() {
		layers := layered(h, seed)
		list := bodies(h.N, h.Rows, layers)
		p := paired(t, h)
		for came, index := range order(h.N, seed) {
			p.takes(index, list[index])
			want := enough(h, layers, came+1)
			one, two := p.Layers(), p.Layers()
			for place := range one {
				longer := append(one[place], 201, 202, 203)
				if !same(one, want) || len(longer) != len(want[place])+3 {
					t.Error("shared", h, place)
				}
			}
			turnAll(t, one, h)
			clear(one[:cap(one)])
			if !same(two, want) {
				t.Error("shared with what was told ahead", h)
			}
			p.tells(want)
			p.counts()
		}
	}
}

func TestIndexesThatAreToldAreNew(t *testing.T) {
	for seed, h := range few() {
		list := noise(h.N, h.Rows, seed)
		p := paired(t, h)
		for _, index := range order(h.N, seed) {
			p.takes(index, list[index])
			one, two := p.Indexes(), p.Indexes()
			want := slices.Clone(two)
			for i := range one[:cap(one)] {
				one[:cap(one)][i] = 77
			}
			_ = append(one[:0], 78, 79)
			if !slices.Equal(two, want) {
				t.Error(h, two, want)
			}
			p.agrees()
		}
	}
}

// R4: one thing is answered alike each time, by as many groups as there are, wherever they are asked.
func TestAlikeEachTime(t *testing.T) {
	h := api.Head{Stream: 3, Frame: 4, N: 40, Deadline: 5, Rows: rows(3, 50, 10, 200, 20, 300)}
	list := noise(h.N, h.Rows, 1)
	first := begun(t, h, list, h.N)
	first.agrees()
	want := first.Layers()
	done := make(chan bool)
	for seed := range 8 {
		go func() {
			g, e := group.New(h)
			all := e == api.OK
			for _, index := range order(h.N, seed) {
				all = g.Take(at(h, index), list[index]) == api.OK && all
			}
			done <- all && same(g.Layers(), want) && slices.Equal(g.Indexes(), first.Indexes())
		}()
	}
	for range 8 {
		if !<-done {
			t.Error("not alike")
		}
	}
}
