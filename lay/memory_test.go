package lay_test

import (
	"bytes"
	"slices"
	"testing"

	"hourglass/api"
	"hourglass/code"
	"hourglass/lay"
)

// R3: arguments stay as they were, with all memory behind them, and answers share none with them nor with one another.

// spoil writes over all memory that came with a list, row by row, and asks each time whether others went with it.
func spoil(t *testing.T, l [][]byte, others ...[][]byte) {
	t.Helper()
	for i, row := range l {
		next, were := slices.Clone(l), make([][][]byte, len(others))
		next[i] = nil
		was := clone(next)
		for j, other := range others {
			were[j] = clone(other)
		}
		row = row[:cap(row)]
		for b := range row {
			row[b] ^= 0xFF
		}
		if !same(next, was) {
			t.Error("shared with one another:", i)
		}
		for j, other := range others {
			if !same(other, were[j]) {
				t.Error("shared with another list:", i, j)
			}
		}
	}
	clear(l[:cap(l)])
}

// within are rows that stand one behind the other in one memory, with bytes ahead of them and behind them.
func within(list [][]byte) (back []byte, parts [][]byte) {
	back = slices.Concat([]byte{91, 92}, bytes.Join(list, nil), []byte{93, 94, 95})
	at := 2
	for _, row := range list {
		parts = append(parts, back[at:at+len(row)])
		at += len(row)
	}
	return back, parts
}

func TestTheTableStaysAsItWas(t *testing.T) {
	table := append(rows(1, 3, 2, 9, 2, 0), rows(77, 78)...)
	was := slices.Clone(table)
	lay.Right(4, table[:3])
	lay.Long(4, table[:3])
	lay.Ready(4, table[:3], 2)
	lay.Gather(4, table[:3], hold(noise(4, table[:3], 1), 3, 2, 0)...)
	lay.Gather(1, table[:3])
	lay.Right(4, table)
	lay.Long(4, table)
	if !slices.Equal(table, was) {
		t.Error(table)
	}
}

func TestLayersStayAsTheyWere(t *testing.T) {
	for name, x := range frames() {
		layers, ks := of(x.table, 2)
		back, parts := within(layers)
		was, list, behind := bytes.Clone(back), slices.Clone(parts), append(ks, 77, 78)
		first, e := lay.Bodies(x.n, parts, behind[:len(ks)])
		again, f := lay.Bodies(x.n, parts, behind[:len(ks)])
		lay.Bodies(x.n, parts, behind)
		lay.Bodies(0, parts, behind[:len(ks)])
		if e != api.OK || f != api.OK || !bytes.Equal(back, was) || !same(parts, list) || !slices.Equal(behind, append(slices.Clone(ks), 77, 78)) {
			t.Error(name, "changed", e, f)
		}
		if x.n < 60 {
			spoil(t, first, again, parts, [][]byte{back})
		}
		want := clone(again)
		for i := range back {
			back[i] ^= 0xFF
		}
		clear(parts)
		clear(behind)
		if !same(again, want) {
			t.Error(name, "kept")
		}
	}
}

func TestHeldStayAsTheyWere(t *testing.T) {
	for name, x := range frames() {
		layers, ks := of(x.table, 2)
		l, _ := lay.Bodies(x.n, layers, ks)
		back, parts := within(l)
		was := bytes.Clone(back)
		held := append(hold(parts, order(x.n, 1)...), code.Held{Index: 77, Bytes: back})
		were := slices.Clone(held)
		first, e := lay.Gather(x.n, x.table, held[:x.n]...)
		again, f := lay.Gather(x.n, x.table, held[:x.n]...)
		lay.Gather(x.n, x.table, held...)
		if e != api.OK || f != api.OK || !bytes.Equal(back, was) || !slices.EqualFunc(held, were, func(a, b code.Held) bool { return a.Index == b.Index && bytes.Equal(a.Bytes, b.Bytes) }) {
			t.Error(name, "changed", e, f)
		}
		spoil(t, first, again, [][]byte{back})
		for i := range back {
			back[i] ^= 0xFF
		}
		clear(held)
		if !same(again, layers) {
			t.Error(name, "kept")
		}
	}
}

// Where one body has all, and where bodies are a layer's rows, they are copies still.
func TestBodiesShareNoMemory(t *testing.T) {
	layer := some(12, 1)
	for _, k := range []int{1, 2, 3, 4} {
		layers := [][]byte{layer, layer}
		l, e := lay.Bodies(4, layers, []int{1, k})
		want := clone(l)
		for i := range l {
			longer := append(l[i], 201, 202, 203)
			if e != api.OK || !same(l, want) || len(longer) != len(want[i])+3 {
				t.Error(k, i, e)
			}
		}
		spoil(t, l, layers)
	}
}

func TestGatheredLayersShareNoMemory(t *testing.T) {
	body := some(15, 1)
	held := []code.Held{{Index: 0, Bytes: body}, {Index: 1, Bytes: body}} // bodies may share memory with one another
	l, e := lay.Gather(2, rows(1, 5, 1, 5, 1, 0, 2, 10), held...)
	want := [][]byte{body[:5], body[5:10], {}, append(slices.Clone(body[10:]), body[10:]...)}
	if e != api.OK || !same(l, want) {
		t.Fatal(l, e)
	}
	want = clone(want)
	for i := range l {
		longer := append(l[i], 201, 202, 203)
		if !same(l, want) || len(longer) != len(want[i])+3 {
			t.Error(i)
		}
	}
	spoil(t, l, [][]byte{body})
}

// What stands behind the bytes of a layer that is handed out is none of another's, nor of what else was decoded.
func TestNothingIsHandedOutBehindALayer(t *testing.T) {
	table := rows(3, 4, 3, 1)
	l, e := lay.Gather(5, table, hold(noise(5, table, 1), 4, 2, 3)...)
	if e != api.OK || len(l) != 2 {
		t.Fatal(l, e)
	}
	for i, layer := range l {
		for _, b := range layer[len(layer):cap(layer)] {
			if b != 0 {
				t.Error(i, layer[:cap(layer)])
			}
		}
	}
}

// R4: one thing is answered alike each time, whatever came between; it does not hang on where, or how, it stands.
func TestAlikeEachTime(t *testing.T) {
	for seed := range 12 {
		n, table := 9+seed, rows(1, seed, 2+seed/2, 40, 9, 100)
		layers, ks := of(table, seed)
		l, e := lay.Bodies(n, layers, ks)
		want, indexes := clone(l), order(n, seed)
		for range 3 {
			roomy := make([][]byte, len(layers), 20)
			for i, layer := range layers {
				roomy[i] = append(make([]byte, 0, 1000), layer...)
			}
			again, f := lay.Bodies(n, roomy, ks)
			if e != api.OK || f != api.OK || !same(again, want) {
				t.Error(seed, e, f)
			}
			unmade(t, n, layers, ks[1:])
			ungot(t, n, table, hold(l, 1, 1), api.ErrTwice)
			ungot(t, n, table, []code.Held{{Index: n}}, api.ErrArg)
			got(t, n, table, hold(again, indexes...), layers)
			got(t, n, table, hold(again, indexes[:1]...), layers[:1])
		}
	}
}
