package frame_test

import (
	"bytes"
	"math/bits"
	"slices"
	"testing"

	"hourglass/api"
	"hourglass/frame"
	"hourglass/head"
	"hourglass/size"
)

// P16.4: what follows.

// enough are the layers whose threshold is at most so many.
func enough(table []api.Row, layers [][]byte, came int) [][]byte {
	var out [][]byte
	for place, row := range table {
		if row.K <= came {
			out = append(out, layers[place])
		}
	}
	return out
}

// chosen are those of a list whose bits are set, the last ones first, if so asked.
func chosen(list [][]byte, set uint, back bool) [][]byte {
	var out [][]byte
	for place, b := range list {
		if set>>place&1 == 1 {
			out = append(out, b)
		}
	}
	if back {
		slices.Reverse(out)
	}
	return out
}

// tellsJust asks whether datagrams are read: just the layers for which they are enough, as they were.
func tellsJust(t *testing.T, datagrams [][]byte, table []api.Row, layers [][]byte) {
	t.Helper()
	had, h, e := frame.Read(datagrams...)
	want := enough(table, layers, len(datagrams))
	if e != api.OK || !same(had, want) || !slices.Equal(h.Rows, table) {
		t.Errorf("of %d datagrams, %v: %d layers, not %d, %d", len(datagrams), table, len(had), len(want), e)
	}
	if one, _, e := head.Parse(datagrams[0]); e != api.OK || h.Index != one.Index || !head.Like(h, one) {
		t.Error(h, one, e)
	}
}

// holds asks whether datagrams are within bounds.
func holds(t *testing.T, b size.Bounds, table []api.Row, datagrams [][]byte) {
	t.Helper()
	all := 0
	for _, d := range datagrams {
		all += len(d)
		if one, e := size.Of(b.N, table); len(d) > b.MTU || len(d) != one || e != api.OK {
			t.Error(b, table, len(d), one, e)
		}
	}
	if all > b.Budget || len(datagrams) != b.N {
		t.Error(b, table, len(datagrams), all)
	}
}

// Each choice of datagrams of few.
func TestAnyDatagramsOfFewAreRead(t *testing.T) {
	for n := 1; n <= 7; n++ {
		for seed, lens := range [][]int{{40, 60}, {0}, {1, 2, 3}, {9, 0, 70, 80}, {5, 5, 5, 5, 5, 5, 5, 5}, {200, 1}} {
			var layers []api.Layer
			for place, long := range lens {
				layers = append(layers, api.Layer{Bytes: some(long, seed*8+place), Worth: 100 >> place})
			}
			for _, most := range []int{64, 90, 120, 400} {
				b := size.Bounds{N: n, MTU: most, Budget: n*most - seed%2}
				table, l, e := frame.Make(start, b, fall(n, 60, 8), layers...)
				if e == api.ErrInfeasible {
					continue
				}
				if e != api.OK {
					t.Fatal(b, lens, e)
				}
				holds(t, b, table, l)
				for set := uint(1); set < 1<<n; set++ {
					tellsJust(t, chosen(l, set, false), table, inside(layers))
					tellsJust(t, chosen(l, set, true), table, inside(layers))
				}
			}
		}
	}
}

// Some choices of datagrams of many.
func TestAnyDatagramsOfManyAreRead(t *testing.T) {
	done := 0
	for seed := range 300 {
		b, weights, layers := anyTask(seed)
		table, l, e := frame.Make(start, b, weights, layers...)
		if e != api.OK {
			continue
		}
		done++
		holds(t, b, table, l)
		tellsJust(t, l, table, inside(layers))
		shuffled := slices.Clone(l)
		for place, dice := range some(b.N, seed) {
			other := (int(dice) + place) % b.N
			shuffled[place], shuffled[other] = shuffled[other], shuffled[place]
		}
		for _, row := range table {
			for _, came := range []int{row.K - 1, row.K, row.K + 1} {
				if came >= 1 && came <= b.N {
					tellsJust(t, shuffled[:came], table, inside(layers))
					tellsJust(t, shuffled[b.N-came:], table, inside(layers))
				}
			}
		}
	}
	if done < 50 {
		t.Error("the test's own frames are too few", done)
	}
}

// What With makes is read alike, whether it has room or not.
func TestAnyDatagramsByThresholdsAreRead(t *testing.T) {
	for seed, k := range kinds() {
		layers := k.layers(seed)
		table := tabled(layers, k.ks)
		l, e := frame.With(start, k.n, layers, k.ks)
		if e != api.OK {
			t.Fatal(k, e)
		}
		if k.n > 7 {
			for _, came := range append(slices.Clone(k.ks), 1, k.n) {
				tellsJust(t, l[:came], table, layers)
				tellsJust(t, l[k.n-came:], table, layers)
				tellsJust(t, l[(k.n-came)/2:][:came], table, layers)
			}
			continue
		}
		for set := uint(1); set < 1<<k.n; set++ {
			tellsJust(t, chosen(l, set, bits.OnesCount(set)%2 == 0), table, layers)
		}
	}
}

// Layers of any bytes come back: all noughts, noughts at the end, all alike.
func TestLayersOfAnyBytes(t *testing.T) {
	for _, long := range []int{1, 5, 12, 13} {
		for _, layer := range [][]byte{make([]byte, long), bytes.Repeat([]byte{255}, long), append(some(long, 1), 0, 0, 0), append([]byte{0}, some(long, 2)...)} {
			layers := [][]byte{layer, nil, layer}
			l, e := frame.With(start, 6, layers, []int{2, 3, 4})
			if e != api.OK {
				t.Fatal(e)
			}
			for set := uint(1); set < 1<<6; set++ {
				tellsJust(t, chosen(l, set, false), rows(2, len(layer), 3, 0, 4, len(layer)), layers)
			}
		}
	}
}
