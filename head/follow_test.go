package head_test

import (
	"bytes"
	"testing"

	"hourglass/api"
	"hourglass/head"
	"hourglass/lay"
	"hourglass/size"
	"hourglass/sum"
)

// P14.4: what follows.

// anyHead is a right header, by a rule.
func anyHead(seed int) api.Head {
	dice := some(40, seed)
	number := func(at int) int {
		return int(dice[at])<<24 | int(dice[at+1])<<16 | int(dice[at+2])<<8 | int(dice[at+3])
	}
	n := int(dice[0])%255 + 1
	h := api.Head{Stream: number(1) % 65536, Frame: number(5)%(1<<31-1) + 1, Index: int(dice[9]) % n, N: n, Deadline: number(10) % (1 << 31)}
	k := 1
	for place := range int(dice[14])%8 + 1 {
		k += int(dice[15+place]) % (n - k + 1) / 2
		h.Rows = append(h.Rows, api.Row{K: k, Len: number(23+place) % []int{1, 2, 256, 65536}[int(dice[31+place])%4]})
	}
	return h
}

// What is put is parsed; and of another header, or another body, other bytes are put.
func TestWhatIsPutIsParsed(t *testing.T) {
	seen := map[string]int{}
	for seed := range 1500 {
		h := anyHead(seed)
		if !right(h) {
			t.Fatal("the test's own header is wrong", h)
		}
		body := whole(h, seed)
		b, e := head.Put(h, body)
		if e != api.OK {
			t.Fatal(h, e)
		}
		again, inner, e := head.Parse(b)
		if e != api.OK || !same(again, h) || !head.Like(again, h) || again.Index != h.Index || !bytes.Equal(inner, body) || !head.Right(again) {
			t.Error(h, again, e)
		}
		if other, twice := seen[string(b)]; twice {
			t.Error(seed, other, "are put alike")
		}
		seen[string(b)] = seed
	}
}

// No other bytes are parsed to the same: of any that are parsed, just these are put.
func TestNoOtherBytesAreParsedToTheSame(t *testing.T) {
	for _, h := range small() {
		b := plain(h, whole(h, 1))
		for at := range b {
			for turn := 1; turn < 256; turn *= 2 {
				other := bytes.Clone(b)
				other[at] ^= byte(turn)
				other = seal(other)
				again, body, e := head.Parse(other)
				if e != api.OK {
					continue
				}
				if same(again, h) && bytes.Equal(body, whole(h, 1)) {
					t.Error(at, turn, h)
				}
				if back, e := head.Put(again, body); e != api.OK || !bytes.Equal(back, other) {
					t.Error(at, turn, again, e)
				}
			}
		}
	}
}

func TestHowLongADatagramIs(t *testing.T) {
	of := heads()
	for seed := range 200 {
		of = append(of, anyHead(seed))
	}
	for i, h := range of {
		b, e := head.Put(h, whole(h, i))
		if want := size.Fixed + size.Each*len(h.Rows) + long(h.Rows); e != api.OK || len(b) != want {
			t.Error(h, len(b), want, e)
		}
		if want, f := size.Of(h.N, h.Rows); f != api.OK || len(b) != want {
			t.Error(h, len(b), want, f)
		}
		body, f := lay.Long(h.N, h.Rows)
		if inner, g := sum.Open(b); f != api.OK || g != api.OK || len(inner) != 14+3*len(h.Rows)+body {
			t.Error(h, len(inner), body, f, g)
		}
	}
}

// The bodies of layers go into datagrams and come out of them as they were.
func TestBodiesOfLayers(t *testing.T) {
	layers, ks := [][]byte{some(40, 1), nil, some(601, 2), some(7, 3)}, []int{2, 2, 5, 7}
	bodies, e := lay.Bodies(7, layers, ks)
	if e != api.OK {
		t.Fatal(e)
	}
	h := api.Head{Stream: 9, Frame: 8, N: 7, Deadline: 6, Rows: rows(2, 40, 2, 0, 5, 601, 7, 7)}
	first := h
	for index, body := range bodies {
		h.Index = index
		b := put(t, h, body)
		again, inner, e := head.Parse(b)
		if e != api.OK || !bytes.Equal(inner, body) || again.Index != index || !head.Like(again, first) {
			t.Error(index, again, e)
		}
	}
}
