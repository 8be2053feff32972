package group_test

import (
	"bytes"
	"math/bits"
	"slices"
	"testing"

	"hourglass/api"
)

// P17.2 and P17.4: what is told of a group, and what follows.

// arrangements calls with any unlike ones of the numbers below n, as many as may be, in any order.
func arrangements(n int, call func(indexes []int)) {
	var indexes []int
	var more func()
	more = func() {
		call(slices.Clone(indexes))
		for i := range n {
			if !slices.Contains(indexes, i) {
				indexes = append(indexes, i)
				more()
				indexes = indexes[:len(indexes)-1]
			}
		}
	}
	more()
}

// enough are the layers whose threshold is at most so many.
func enough(h api.Head, layers [][]byte, came int) [][]byte {
	var out [][]byte
	for place, row := range h.Rows {
		if row.K <= came {
			out = append(out, layers[place])
		}
	}
	return out
}

// follows asks of bodies of layers, taken in an order, whether the first layers are told after each, as they were.
func follows(t *testing.T, h api.Head, layers, list [][]byte, indexes []int) {
	t.Helper()
	p := paired(t, h)
	p.tells(nil)
	for came, index := range indexes {
		p.takes(index, list[index])
		p.tells(enough(h, layers, came+1))
	}
}

// Each choice of bodies, in each order.
func TestLayersOfEachArrangement(t *testing.T) {
	for seed, h := range []api.Head{
		example(0),
		{Frame: 1, N: 1, Rows: rows(1, 5)},
		{Frame: 1, N: 2, Rows: rows(1, 5, 2, 3, 2, 4)},
		{Frame: 1, N: 4, Rows: rows(2, 5, 2, 1, 3, 7, 4, 4)},
		{Frame: 1, N: 5, Rows: rows(1, 2, 3, 7, 4, 0, 5, 11)},
		{Frame: 1, N: 5, Rows: rows(2, 9, 4, 3)},
		{Frame: 1, N: 5, Rows: rows(3, 1)},
		{Frame: 1, N: 4, Rows: rows(1, 0, 2, 0)},
	} {
		layers := layered(h, seed)
		list := bodies(h.N, h.Rows, layers)
		arrangements(h.N, func(indexes []int) {
			p := paired(t, h)
			for _, index := range indexes {
				p.takes(index, list[index])
			}
			p.tells(enough(h, layers, len(indexes)))
		})
	}
}

// Each choice of bodies, in some orders.
func TestLayersOfEachSet(t *testing.T) {
	for seed, h := range few() {
		layers := layered(h, seed)
		list := bodies(h.N, h.Rows, layers)
		for set := range uint(1) << h.N {
			var indexes []int
			for _, index := range order(h.N, int(set)) {
				if set>>index&1 == 1 {
					indexes = append(indexes, index)
				}
			}
			p := paired(t, h)
			for _, index := range indexes {
				p.takes(index, list[index])
			}
			if p.Came() != bits.OnesCount(set) {
				t.Error(set, p.Came())
			}
			p.tells(enough(h, layers, len(indexes)))
		}
	}
}

// From the first body to the last one: ahead of each threshold, at it, between two of them, behind the last one.
func TestLayersBodyByBody(t *testing.T) {
	for seed, h := range append(few(), api.Head{Frame: 1, N: 12, Rows: rows(3, 20, 3, 21, 6, 22, 9, 23)}, api.Head{Frame: 1, N: 20, Rows: rows(1, 40, 10, 300, 20, 1000)}) {
		layers := layered(h, seed)
		list := bodies(h.N, h.Rows, layers)
		for _, indexes := range [][]int{order(h.N, 0), order(h.N, 1), order(h.N, 2)} {
			follows(t, h, layers, list, indexes)
			slices.Sort(indexes)
			follows(t, h, layers, list, indexes)
			slices.Reverse(indexes)
			follows(t, h, layers, list, indexes)
		}
	}
}

// The greatest groups: layers are asked about their thresholds alone.
func TestLayersOfManyBodies(t *testing.T) {
	for seed, h := range []api.Head{
		{Frame: 1, N: 255, Rows: rows(1, 3, 100, 300, 254, 400, 255, 2)},
		{Frame: 1, N: 255, Rows: rows(255, 65535)},
		{Frame: 1, N: 129, Rows: rows(127, 127, 128, 128, 128, 0, 129, 129)},
		{Frame: 1, N: 2, Rows: slices.Repeat(rows(1, 65535), 8)},
		{Frame: 1, N: 3, Rows: rows(2, 65535, 2, 65534, 2, 65533, 2, 65532, 3, 65531, 3, 1, 3, 0, 3, 65535)},
	} {
		layers := layered(h, seed)
		list := bodies(h.N, h.Rows, layers)
		for _, indexes := range [][]int{order(h.N, 7), order(h.N, 8)} {
			p := paired(t, h)
			for came, index := range indexes {
				p.takes(index, list[index])
				for _, row := range h.Rows {
					if came+1 >= row.K-1 && came+1 <= row.K+1 || came+1 == h.N {
						p.tells(enough(h, layers, came+1))
						break
					}
				}
			}
			if !p.Whole() || p.Bytes() != h.N*long(h.Rows) {
				t.Error(h, p.Whole(), p.Bytes())
			}
		}
	}
}

func TestIndexesRise(t *testing.T) {
	h := api.Head{Frame: 1, N: 255, Rows: rows(255, 255)}
	for seed := range 8 {
		p := paired(t, h)
		for _, index := range order(h.N, seed) {
			p.takes(index, []byte{byte(index)}) // with it, Indexes are held against those that came
		}
		if got := p.Indexes(); !slices.IsSorted(got) || len(got) != 255 || got[0] != 0 || got[254] != 254 {
			t.Error(seed, got)
		}
	}
}

// Bodies that are of no layers, too, tell what does not hang on the order in which they came.
func TestBodiesOfNoLayersInAnyOrder(t *testing.T) {
	for seed, h := range []api.Head{
		example(0),
		{Frame: 1, N: 4, Rows: rows(1, 3, 2, 4, 2, 0, 3, 9)},
		{Frame: 1, N: 5, Rows: rows(1, 2, 3, 7)},
	} {
		list := noise(h.N, h.Rows, seed)
		told := map[uint][][]byte{}
		arrangements(h.N, func(indexes []int) {
			p, set := paired(t, h), uint(0)
			for _, index := range indexes {
				p.takes(index, list[index])
				set |= 1 << index
			}
			p.agrees()
			got := p.Layers()
			if was, is := told[set]; is && !same(was, got) {
				t.Error(h, indexes, got, was)
			}
			told[set] = got
		})
	}
}

// What is not taken changes nothing, wherever it comes.
func TestWhatIsNotTakenChangesNothing(t *testing.T) {
	for seed, h := range few() {
		layers := layered(h, seed)
		list := bodies(h.N, h.Rows, layers)
		p := paired(t, h)
		for came, index := range order(h.N, seed) {
			for name, other := range unlike(h) {
				p.fails(api.ErrOdd, at(other, index), list[index], name)
			}
			for _, wrong := range []int{-1, h.N, 256 + index} {
				p.fails(api.ErrOdd, at(h, wrong), list[index])
			}
			p.fails(api.ErrArg, at(h, index), append(bytes.Clone(list[index]), 1))
			if long(h.Rows) > 0 {
				p.fails(api.ErrArg, at(h, index), list[index][1:])
				p.fails(api.ErrArg, at(h, index), nil)
			}
			p.tells(enough(h, layers, came))
			p.takes(index, list[index])
			p.fails(api.ErrTwice, at(h, index), some(long(h.Rows), 99))
			p.tells(enough(h, layers, came+1))
		}
	}
}

// What is held is what came first: what comes behind it, with the same index, does not go into layers.
func TestTheFirstBodyIsHeld(t *testing.T) {
	h := api.Head{Frame: 1, N: 4, Rows: rows(1, 4, 3, 9)}
	layers := layered(h, 1)
	list := bodies(h.N, h.Rows, layers)
	for first := range h.N {
		p := paired(t, h)
		p.takes(first, some(long(h.Rows), 7))
		p.fails(api.ErrTwice, at(h, first), list[first])
		p.agrees()
		for index := range h.N {
			if index != first {
				p.takes(index, list[index])
			}
		}
		p.agrees()
	}
}

// Layers of any bytes come back: all noughts, noughts at the end, all alike.
func TestLayersOfAnyBytes(t *testing.T) {
	for _, size := range []int{1, 5, 12, 13} {
		for _, layer := range [][]byte{make([]byte, size), bytes.Repeat([]byte{255}, size), append(some(size, 1), 0, 0, 0), append([]byte{0}, some(size, 2)...)} {
			h := api.Head{Frame: 1, N: 6, Rows: rows(2, len(layer), 3, 0, 4, len(layer))}
			layers := [][]byte{layer, nil, layer}
			list := bodies(h.N, h.Rows, layers)
			for seed := range 20 {
				follows(t, h, layers, list, order(h.N, seed))
			}
		}
	}
}
