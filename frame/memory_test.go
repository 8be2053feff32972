package frame_test

import (
	"bytes"
	"slices"
	"testing"

	"hourglass/api"
	"hourglass/frame"
)

// R3: arguments stay as they were, with all memory behind them; what is handed out is new memory that lies apart.

// turn changes bytes, and those behind them.
func turn(b []byte) {
	b = b[:cap(b)]
	for i := range b {
		b[i] ^= 0xFF
	}
}

// turnAll changes a list's rows, one by one, and asks each time whether the others stay as they were.
func turnAll(t *testing.T, list [][]byte, what ...any) {
	t.Helper()
	was := make([][]byte, len(list))
	for place, b := range list {
		was[place] = bytes.Clone(b)
	}
	for place, b := range list {
		turn(b)
		turn(was[place])
		if !same(list, was) {
			t.Error(append(what, "shared", place)...)
			return
		}
	}
}

// roomy is a part of a longer list of bytes, and that list.
func roomy(b []byte) (part, back []byte) {
	back = slices.Concat([]byte{91, 92}, b, []byte{93, 94, 95, 96, 97, 98, 99})
	return back[2 : 2+len(b)], back
}

func TestLayersStayAsTheyWere(t *testing.T) {
	for seed, k := range few() {
		var backs [][]byte
		layers, ks := make([][]byte, 0, 20), append(append(make([]int, 0, 20), k.ks...), 71, 72)
		for _, b := range k.layers(seed) {
			part, back := roomy(b)
			layers, backs = append(layers, part), append(backs, back)
		}
		layers = append(layers, []byte{73}, []byte{74})
		was, first, many := slices.Clone(backs), slices.Clone(layers), len(k.ks)
		for i, b := range was {
			was[i] = bytes.Clone(b)
		}
		one, e := frame.With(start, k.n, layers[:many], ks[:many])
		two, f := frame.With(start, k.n, layers[:many], ks[:many])
		for _, n := range []int{0, k.n, 256} {
			frame.With(frame.Start{}, n, layers[:many], ks[:many])
			frame.With(start, n, layers[:many], ks)
			frame.With(start, n, layers, ks)
		}
		if e != api.OK || f != api.OK || !same(backs, was) || !same(layers, first) || !slices.Equal(ks, append(slices.Clone(k.ks), 71, 72)) {
			t.Error("changed", k, e, f)
		}
		want := of(start, k.n, k.layers(seed), k.ks)
		turnAll(t, one, k)
		if !same(backs, was) || !same(two, want) {
			t.Error("shared", k)
		}
		for _, b := range backs {
			turn(b)
		}
		clear(layers)
		clear(ks)
		if !same(two, want) {
			t.Error("kept", k)
		}
	}
}

func TestWhatMakeIsAskedStaysAsItWas(t *testing.T) {
	for _, long := range []int{20, 0, 99, 65536} {
		part, back := roomy(some(long, 1))
		was := bytes.Clone(back)
		weights := append(make([]int, 0, 20), 9, 8, 5, 1, 0, 97, 98)
		layers := append(make([]api.Layer, 0, 20), api.Layer{Bytes: part, Worth: 5}, api.Layer{Bytes: some(20, 2), Worth: 1}, api.Layer{Worth: 77})
		for _, s := range []frame.Start{start, {}} {
			for many := range 4 {
				for last := 4; last <= 6; last++ {
					frame.Make(s, bounds, weights[:last], layers[:many]...)
				}
			}
		}
		if !bytes.Equal(back, was) || !slices.Equal(weights, []int{9, 8, 5, 1, 0, 97, 98}) {
			t.Error("changed", long, weights)
		}
		if !bytes.Equal(layers[0].Bytes, some(long, 1)) || layers[0].Worth != 5 || !bytes.Equal(layers[1].Bytes, some(20, 2)) || layers[1].Worth != 1 || layers[2].Bytes != nil || layers[2].Worth != 77 {
			t.Error("changed", long)
		}
	}
}

func TestWhatMakeTellsIsNew(t *testing.T) {
	weights, layers := []int{9, 8, 5, 1, 0}, layered(20, 5, 20, 1)
	table, l, e := frame.Make(start, bounds, weights, layers...)
	again, other, f := frame.Make(start, bounds, weights, layers...)
	if e != api.OK || f != api.OK {
		t.Fatal(e, f)
	}
	want := of(start, 4, inside(layers), []int{1, 4})
	clear(table[:cap(table)])
	if !same(l, want) {
		t.Error("the table is the datagrams'")
	}
	turnAll(t, l)
	clear(l[:cap(l)])
	for _, layer := range layers {
		turn(layer.Bytes)
	}
	clear(layers)
	clear(weights)
	if !same(other, want) || !slices.Equal(again, rows(1, 20, 4, 20)) {
		t.Error("shared or kept", again)
	}
}

func TestDatagramsStayAsTheyWere(t *testing.T) {
	for seed, k := range few() {
		layers := k.layers(seed)
		var backs [][]byte
		l := make([][]byte, 0, 20)
		for _, b := range of(start, k.n, layers, k.ks) {
			part, back := roomy(b)
			l, backs = append(l, part), append(backs, back)
		}
		slices.Reverse(l)
		l = append(l, []byte{73})
		was, first := slices.Clone(backs), slices.Clone(l)
		for i, b := range was {
			was[i] = bytes.Clone(b)
		}
		one, h, e := frame.Read(l[:k.n]...)
		two, g, f := frame.Read(l[:k.n]...)
		frame.Read(l...)
		frame.Read(append(l[:k.n:k.n], l[0])...)
		if e != api.OK || f != api.OK || !same(backs, was) || !same(l, first) {
			t.Error("changed", k, e, f)
		}
		turnAll(t, one, k)
		clear(one[:cap(one)])
		clear(h.Rows[:cap(h.Rows)])
		if !same(backs, was) || !same(two, layers) || !slices.Equal(g.Rows, tabled(layers, k.ks)) {
			t.Error("shared", k)
		}
		for _, b := range backs {
			turn(b)
		}
		clear(l)
		if !same(two, layers) || !slices.Equal(g.Rows, tabled(layers, k.ks)) || g.Index != k.n-1 {
			t.Error("kept", k)
		}
	}
}

// One list of bytes may be all layers, one datagram may be what others are cut of.
func TestOneListForAll(t *testing.T) {
	all := some(60, 1)
	made(t, start, 5, [][]byte{all, all[:40], all[20:]}, []int{2, 3, 5})
	made(t, start, 5, [][]byte{all, all, all}, []int{3, 3, 3})
	l := of(start, 3, [][]byte{all}, []int{2})
	joined := slices.Concat(l...)
	size := len(l[0])
	fails(t, api.OK, [][]byte{joined[2*size:], joined[:size]})
	fails(t, api.ErrTwice, [][]byte{joined[:size], joined[size : 2*size], joined[:size]})
	if !bytes.Equal(all, some(60, 1)) || !bytes.Equal(joined, slices.Concat(l...)) {
		t.Error("changed")
	}
}

// R4 and R6: one thing is answered alike each time, whatever came between; lists without elements are one.
func TestAlikeEachTime(t *testing.T) {
	good, bad := pool(t)
	for range 3 {
		answers(t, api.OK, start, bounds, []int{9, 8, 5, 1, 0}, layered(20, 5, 20, 1))
		answers(t, api.ErrInfeasible, start, bounds, []int{9, 8, 5, 1, 0}, layered(45, 5, 60, 1))
		answers(t, api.ErrArg, start, bounds, []int{9, 8, 5, 1}, layered(20, 5, 20, 1))
		for _, b := range bad {
			asked(t, good[0], b)
			asked(t, b, good[1])
		}
		fails(t, api.OK, good)
		for _, none := range [][]byte{nil, {}, some(9, 1)[:0]} {
			made(t, start, 2, [][]byte{none, {7}}, []int{1, 2})
			answers(t, api.OK, start, bounds, []int{9, 8, 5, 1, 0}, []api.Layer{{Bytes: none, Worth: 1}})
			fails(t, api.ErrShape, [][]byte{good[0], none})
		}
		for _, none := range [][]int{nil, {}, make([]int, 0, 9)} {
			refused(t, start, 2, nil, none)
			refused(t, start, 2, [][]byte{}, none)
			answers(t, api.ErrArg, start, bounds, none, layered(20, 5))
			answers(t, api.ErrArg, start, bounds, none, nil)
			answers(t, api.ErrArg, start, bounds, []int{9, 8, 5, 1, 0}, []api.Layer{})
		}
	}
}

// Nothing is kept from call to call, wherever they are made.
func TestManyAtOnce(t *testing.T) {
	layers, weights := layered(200, 3, 300, 2, 400, 1), fall(30, 60000, 7)
	b := bounds
	b.N, b.Budget = 30, 30*64
	table, want, e := frame.Make(start, b, weights, layers...)
	if e != api.OK {
		t.Fatal(e)
	}
	done := make(chan bool)
	for range 8 {
		go func() {
			rows, l, e := frame.Make(start, b, weights, layers...)
			had, h, f := frame.Read(want...)
			done <- e == api.OK && f == api.OK && slices.Equal(rows, table) && same(l, want) && same(had, inside(layers)) && h.N == 30
		}()
	}
	for range 8 {
		if !<-done {
			t.Error("not alike")
		}
	}
}
