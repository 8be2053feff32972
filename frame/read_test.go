package frame_test

import (
	"bytes"
	"slices"
	"testing"

	"hourglass/api"
	"hourglass/frame"
)

// P16.3

// orders calls with each choice of places from 0 to n - 1, in each order; with none, too.
func orders(n int, call func(places []int)) {
	var more func(places []int)
	more = func(places []int) {
		call(slices.Clone(places))
		for place := range n {
			if !slices.Contains(places, place) {
				more(append(slices.Clone(places), place))
			}
		}
	}
	more(nil)
}

func TestReadOfNone(t *testing.T) {
	fails(t, api.ErrNone, nil)
	fails(t, api.ErrNone, [][]byte{})
	fails(t, api.ErrNone, made(t, start, 2, [][]byte{{1}}, []int{1})[:0])
	fails(t, api.ErrShape, [][]byte{nil}, "one, which has nothing")
	fails(t, api.ErrShape, [][]byte{{}}, "one, which has nothing")
}

func TestReadOfOne(t *testing.T) {
	for seed, k := range kinds() {
		l := made(t, start, k.n, k.layers(seed), k.ks)
		for _, b := range l {
			fails(t, api.OK, [][]byte{b})
		}
	}
}

func TestReadOfAll(t *testing.T) {
	for seed, k := range kinds() {
		layers := k.layers(seed)
		l := made(t, start, k.n, layers, k.ks)
		for range 3 {
			got, h, e := frame.Read(l...)
			if e != api.OK || !same(got, layers) || !slices.Equal(h.Rows, tabled(layers, k.ks)) || h.N != k.n || h.Stream != start.Stream || h.Frame != start.Frame || h.Deadline != start.Deadline {
				t.Error(k, h, e)
			}
			slices.Reverse(l)
			fails(t, api.OK, l)
			l = slices.Concat(l[k.n/2:], l[:k.n/2])
		}
	}
}

// Any so many, in each order, whichever they are.
func TestReadInEachOrder(t *testing.T) {
	for seed, k := range few() {
		if k.n > 5 {
			continue
		}
		l := made(t, start, k.n, k.layers(seed), k.ks)
		orders(k.n, func(places []int) {
			want := api.OK
			if len(places) == 0 {
				want = api.ErrNone
			}
			fails(t, want, at(l, places...))
		})
	}
}

// Bodies need not be those of any layers: the first ones that are enough for a layer tell it, in the order in which they are given.
func TestReadOfAnyBodies(t *testing.T) {
	h := api.Head{Stream: 7, Frame: 8, N: 5, Deadline: 9, Rows: rows(1, 3, 2, 5, 4, 9, 4, 0, 5, 11)}
	var l [][]byte
	for h.Index = range h.N {
		l = append(l, datagram(h, some(long(h.Rows), h.Index)))
	}
	unlike := map[string]int{}
	orders(h.N, func(places []int) {
		some := at(l, places...)
		asked(t, some...)
		got, first, e := frame.Read(some...)
		if len(places) > 0 && (e != api.OK || first.Index != places[0]) {
			t.Error(places, first, e)
		}
		if len(places) == 3 {
			unlike[string(bytes.Join(got, nil))]++
		}
	})
	if len(unlike) != 5*4 { // the first one tells a layer, and with the second one the next
		t.Error("the test's own bodies are too much alike", len(unlike))
	}
}

func TestReadOfOneTwice(t *testing.T) {
	for seed, k := range few() {
		l := made(t, start, k.n, k.layers(seed), k.ks)
		for index, b := range l {
			for place := range k.n + 1 {
				fails(t, api.ErrTwice, slices.Insert(slices.Clone(l), place, b), index, place)
			}
			fails(t, api.ErrTwice, [][]byte{b, b}, index)
			fails(t, api.ErrTwice, [][]byte{b, bytes.Clone(b)}, index)
			fails(t, api.ErrTwice, [][]byte{b, b, b}, index)
		}
		fails(t, api.ErrTwice, slices.Concat(l, l))
	}
}

// An index stands twice, whatever the bodies are.
func TestReadOfOneIndexTwice(t *testing.T) {
	h := api.Head{Stream: 7, Frame: 8, Index: 1, N: 3, Deadline: 9, Rows: rows(1, 3, 2, 5)}
	one, other := datagram(h, some(6, 1)), datagram(h, some(6, 2))
	h.Index = 0
	zero := datagram(h, some(6, 3))
	fails(t, api.ErrTwice, [][]byte{one, other})
	fails(t, api.ErrTwice, [][]byte{one, zero, other})
	fails(t, api.ErrTwice, [][]byte{zero, one, other})
	fails(t, api.OK, [][]byte{zero, one})
	fails(t, api.OK, [][]byte{other, zero})
}

func TestReadOfMoreThanThereAre(t *testing.T) {
	l := made(t, start, 255, [][]byte{{1, 2, 3}}, []int{2})
	fails(t, api.OK, l)
	for _, index := range []int{0, 1, 127, 254} {
		fails(t, api.ErrTwice, append(slices.Clone(l), l[index]), index)
		fails(t, api.ErrTwice, slices.Insert(slices.Clone(l), 0, l[index]), index)
		fails(t, api.ErrTwice, slices.Repeat(l[index:index+1], 300), index)
	}
	fails(t, api.ErrTwice, slices.Repeat(l, 5))
	fails(t, api.ErrShape, make([][]byte, 70000))
}

// others are frames that are not like one in just one number, with the datagram of an index.
func others(h api.Head) map[string]api.Head {
	out := map[string]api.Head{}
	with := func(name string, change func(h *api.Head)) {
		other := h
		other.Rows = slices.Clone(h.Rows)
		change(&other)
		out[name] = other
	}
	with("Stream", func(h *api.Head) { h.Stream++ })
	with("Stream, far", func(h *api.Head) { h.Stream ^= 1 << 15 })
	with("Frame", func(h *api.Head) { h.Frame++ })
	with("Frame, far", func(h *api.Head) { h.Frame ^= 1 << 29 })
	with("N", func(h *api.Head) { h.N++ })
	with("N, far", func(h *api.Head) { h.N = 255 })
	with("Deadline", func(h *api.Head) { h.Deadline-- })
	with("Deadline, far", func(h *api.Head) { h.Deadline ^= 1 << 30 })
	with("one more row", func(h *api.Head) { h.Rows = append(h.Rows, api.Row{K: h.N, Len: 0}) })
	with("one fewer", func(h *api.Head) { h.Rows = h.Rows[:len(h.Rows)-1] })
	with("the first K", func(h *api.Head) { h.Rows[0].K++ })
	with("the last K", func(h *api.Head) { h.Rows[len(h.Rows)-1].K++ })
	with("the first Len", func(h *api.Head) { h.Rows[0].Len++ })
	with("the last Len", func(h *api.Head) { h.Rows[len(h.Rows)-1].Len-- })
	with("the last Len, of the same width", func(h *api.Head) { h.Rows[len(h.Rows)-1].Len++ })
	return out
}

func TestReadOfTwoFrames(t *testing.T) {
	h := api.Head{Stream: 7, Frame: 8, N: 5, Deadline: 9, Rows: rows(1, 3, 2, 4, 4, 9)}
	var l [][]byte
	for h.Index = range 4 {
		l = append(l, datagram(h, some(long(h.Rows), h.Index)))
	}
	for name, other := range others(h) {
		for other.Index = range 5 {
			b := datagram(other, some(long(other.Rows), 7))
			fails(t, api.OK, [][]byte{b}, name)
			for place := range 5 {
				fails(t, api.ErrOdd, slices.Insert(slices.Clone(l), place, b), name, other.Index, place)
			}
			fails(t, api.ErrOdd, [][]byte{l[0], b}, name, other.Index)
			fails(t, api.ErrOdd, [][]byte{b, l[0]}, name, other.Index)
			fails(t, api.ErrOdd, [][]byte{l[1], b, l[1]}, name, other.Index, "and one twice")
			fails(t, api.ErrOdd, [][]byte{l[1], l[1], b}, name, other.Index, "and one twice")
			fails(t, api.ErrOdd, [][]byte{b, b, l[1]}, name, other.Index, "which is there twice")
		}
	}
}

func TestReadOfBytesCutOff(t *testing.T) {
	l := made(t, start, 3, [][]byte{{5}, {7, 8}}, []int{1, 2})
	for size := range l[1] {
		want := api.ErrSum
		if size < 4 {
			want = api.ErrShape
		}
		for place := range 3 {
			fails(t, want, slices.Insert(at(l, 0, 2), place, l[1][:size]), size, place)
		}
		fails(t, want, [][]byte{l[1][:size]}, size)
		fails(t, want, [][]byte{l[1][:size], l[0], l[0]}, size)
		if size < len(l[1])-4 {
			fails(t, api.ErrShape, [][]byte{l[0], seal(l[1][:size])}, size, "sealed again")
			fails(t, api.ErrShape, [][]byte{seal(l[1][:size]), l[0]}, size, "sealed again")
		}
	}
	fails(t, api.ErrSum, [][]byte{l[0], append(bytes.Clone(l[1]), 0)}, "longer")
	fails(t, api.ErrShape, [][]byte{l[0], seal(l[1])}, "sealed twice")
	fails(t, api.ErrSum, [][]byte{l[0], slices.Concat(l[1], l[2])}, "two in one")
}

func TestReadOfBytesTurned(t *testing.T) {
	l := made(t, start, 3, [][]byte{{5}, {7, 8}}, []int{1, 2})
	tally := map[api.Errno]int{}
	for bit := range 8 * len(l[1]) {
		b := bytes.Clone(l[1])
		b[bit/8] ^= 1 << (bit % 8)
		fails(t, api.ErrSum, [][]byte{b}, bit)
		fails(t, api.ErrSum, [][]byte{l[0], l[2], b}, bit)
		fails(t, api.ErrSum, [][]byte{b, l[0], l[0]}, bit)
		if again := seal(b[:len(b)-4]); bit/8 < len(b)-4 {
			tally[asked(t, again)]++
			tally[asked(t, l[0], l[1], again)]++
			tally[asked(t, again, l[2])]++
		}
	}
	for _, e := range []api.Errno{api.OK, api.ErrShape, api.ErrVersion, api.ErrOdd, api.ErrTwice} {
		if tally[e] < 8 {
			t.Error("the test's own datagrams are too much alike", tally)
		}
	}
}

func TestReadOfEachVersion(t *testing.T) {
	l := made(t, start, 3, [][]byte{{5}, {7, 8}}, []int{1, 2})
	for version := range 256 {
		b := bytes.Clone(l[1][:len(l[1])-4])
		b[0] = byte(version)
		want := api.ErrVersion
		if version == 1 {
			want = api.OK
		}
		fails(t, want, [][]byte{seal(b)}, version)
		fails(t, want, [][]byte{l[0], seal(b), l[2]}, version)
		fails(t, want, [][]byte{seal(b), l[0]}, version)
	}
	report := seal([]byte{2, 0, 1, 0, 0, 0, 2, 3, 2, 2, 0, 1, 3, 0, 5})
	fails(t, api.ErrVersion, [][]byte{l[0], report})
	fails(t, api.ErrVersion, [][]byte{report, l[0]})
}

// pool are datagrams of one frame, and such as make each error beside them.
func pool(t *testing.T) (good, bad [][]byte) {
	layers, ks := [][]byte{{5}, {7, 8}, some(9, 1)}, []int{1, 2, 3}
	good = made(t, start, 4, layers, ks)
	other := start
	other.Frame++
	bad = append(bad, made(t, other, 4, layers, ks)[1])                                // ErrOdd
	bad = append(bad, good[0], good[2])                                                // ErrTwice
	bad = append(bad, nil, []byte{2, 0, 0}, seal(nil), seal([]byte{1}), seal(good[1])) // ErrShape
	bad = append(bad, good[1][:len(good[1])-1], []byte{2, 0, 0, 0, 0})                 // ErrSum
	bad = append(bad, seal([]byte{2}), seal([]byte{0, 9, 9}))                          // ErrVersion
	return good, bad
}

// Of several faults the first datagram's counts ahead of all others, wherever those stand.
func TestReadOfSeveralFaults(t *testing.T) {
	good, bad := pool(t)
	all := slices.Concat(good, bad)
	tally := map[api.Errno]int{}
	for a := range all {
		for b := range all {
			tally[asked(t, all[a], all[b])]++
			for c := range all {
				tally[asked(t, all[a], all[b], all[c])]++
			}
		}
	}
	for seed := range 3000 {
		var l [][]byte
		for _, dice := range some(seed%8+1, seed) {
			l = append(l, all[int(dice)%(len(good)+int(dice)/16%(len(bad)+1))])
		}
		tally[asked(t, l...)]++
	}
	for _, e := range []api.Errno{api.OK, api.ErrShape, api.ErrSum, api.ErrVersion, api.ErrOdd, api.ErrTwice} {
		if tally[e] < 50 {
			t.Error("the test's own datagrams are too much alike", tally)
		}
	}
}

func TestReadInOrderOfErrors(t *testing.T) {
	good, bad := pool(t)
	odd, twice, short, turned, another := bad[0], bad[1], bad[3], bad[8], bad[10]
	for _, x := range []struct {
		want api.Errno
		l    [][]byte
	}{
		{api.ErrShape, [][]byte{short, turned, another, odd, good[0], twice}},
		{api.ErrSum, [][]byte{turned, short, another, odd, good[0], twice}},
		{api.ErrVersion, [][]byte{another, turned, short, odd, good[0], twice}},
		{api.ErrShape, [][]byte{good[0], odd, twice, short}},
		{api.ErrSum, [][]byte{good[0], twice, odd, turned}},
		{api.ErrVersion, [][]byte{twice, good[0], odd, another}},
		{api.ErrSum, [][]byte{good[0], turned, short}},
		{api.ErrVersion, [][]byte{good[0], good[1], another, short, turned}},
		{api.ErrOdd, [][]byte{good[0], twice, odd}},
		{api.ErrOdd, [][]byte{odd, good[0], twice}},
		{api.ErrTwice, [][]byte{good[0], good[1], twice}},
	} {
		fails(t, x.want, x.l)
	}
}

// Bytes of any sort, sealed and not.
func TestReadOfAnyBytes(t *testing.T) {
	good, _ := pool(t)
	for seed := range 1500 {
		b := some(seed%70, seed)
		asked(t, b)
		asked(t, good[0], seal(b))
		if len(b) > 10 {
			b[0], b[1], b[3], b[7], b[8], b[9], b[10] = 1, 0, b[3]&127, b[7]%8, b[8]%8+1, b[9]%3, b[10]&127
			asked(t, seal(b))
			asked(t, seal(b), good[0])
		}
	}
}
