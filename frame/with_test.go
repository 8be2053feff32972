package frame_test

import (
	"math"
	"slices"
	"testing"

	"hourglass/api"
	"hourglass/frame"
	"hourglass/head"
	"hourglass/lay"
)

// P16.1

func TestWithOfKinds(t *testing.T) {
	for seed, k := range kinds() {
		layers := k.layers(seed)
		l := made(t, start, k.n, layers, k.ks)
		for index, b := range l {
			if h, _, e := head.Parse(b); e != api.OK || h.Index != index || h.N != k.n {
				t.Error(k, index, h, e)
			}
		}
	}
}

func TestWithOfEachNumberOfAStart(t *testing.T) {
	for _, k := range few() {
		layers := k.layers(1)
		for _, p := range parts() {
			for _, n := range p.may {
				s := start
				*p.of(&s) = n
				made(t, s, k.n, layers, k.ks)
			}
			for _, n := range p.none {
				s := start
				*p.of(&s) = n
				refused(t, s, k.n, layers, k.ks, p.name, n)
			}
		}
	}
	refused(t, frame.Start{}, 1, [][]byte{{1}}, []int{1})
	made(t, frame.Start{Frame: 1}, 1, [][]byte{{1}}, []int{1})
	made(t, frame.Start{Stream: 65535, Frame: 1<<31 - 1, Deadline: 1<<31 - 1}, 1, [][]byte{{1}}, []int{1})
}

func TestWithOfEachN(t *testing.T) {
	layers := [][]byte{some(9, 1), some(20, 2)}
	for n := -2; n <= 258; n++ {
		for _, ks := range [][]int{{1, 1}, {1, 3}, {3, 3}} {
			if n >= ks[1] && n <= 255 {
				made(t, start, n, layers, ks)
			} else {
				refused(t, start, n, layers, ks)
			}
		}
	}
	for _, n := range slices.Concat(far, []int{0, 256, 257, 511, 512, 65536, 65537}) {
		refused(t, start, n, layers, []int{1, 1}, n)
		refused(t, start, n, layers, []int{n, n}, n)
		refused(t, start, n, nil, nil, n)
	}
}

func TestWithOfSoManyLayers(t *testing.T) {
	for _, long := range []int{0, 1, 5} {
		for _, many := range []int{0, 1, 2, 7, 8, 9, 10, 16, 255, 256, 257, 264, 1000} {
			layers, ks := slices.Repeat([][]byte{some(long, 1)}, many), slices.Repeat([]int{2}, many)
			if many >= 1 && many <= 8 {
				made(t, start, 3, layers, ks)
			} else {
				refused(t, start, 3, layers, ks, many)
			}
			refused(t, start, 3, layers, append(ks, 2), "more thresholds")
			refused(t, start, 3, append(layers, nil), ks, "more layers")
			refused(t, start, 3, layers, make([]int, many), "noughts")
			if many > 0 {
				refused(t, start, 3, layers, ks[1:], "fewer thresholds")
				refused(t, start, 3, layers[1:], ks, "fewer layers")
				refused(t, start, 3, layers, nil, "no thresholds")
				refused(t, start, 3, nil, ks, "no layers")
			}
		}
	}
	refused(t, start, 3, [][]byte{}, []int{})
	refused(t, start, 3, nil, []int{})
}

func TestWithOfLayersOfEachLength(t *testing.T) {
	for _, long := range []int{0, 1, 2, 3, 254, 255, 256, 257, 65533, 65534, 65535} {
		for _, n := range []int{1, 3, 5} {
			made(t, start, n, [][]byte{some(long, n)}, []int{n})
			made(t, start, n, [][]byte{some(long, n), {1}}, []int{1, n})
			made(t, start, n, [][]byte{nil, some(long, n)}, []int{1, n})
		}
	}
	for _, long := range []int{65536, 65537, 65791, 131072} {
		refused(t, start, 3, [][]byte{some(long, 1)}, []int{3}, long)
		refused(t, start, 3, [][]byte{{1}, some(long, 1)}, []int{1, 3}, long)
		refused(t, start, 3, [][]byte{some(long, 1), {1}}, []int{1, 3}, long)
	}
}

func TestWithOfThresholds(t *testing.T) {
	layers := [][]byte{some(5, 1), some(6, 2), some(7, 3)}
	for a := -1; a <= 6; a++ {
		for b := -1; b <= 6; b++ {
			for c := -1; c <= 6; c++ {
				ks := []int{a, b, c}
				if 1 <= a && a <= b && b <= c && c <= 5 {
					made(t, start, 5, layers, ks)
				} else {
					refused(t, start, 5, layers, ks)
				}
			}
		}
	}
	for place := range 3 {
		for _, k := range slices.Concat(far, []int{0, 6, 255, 256, 257, 258, 65537, 65538}) {
			ks := []int{2, 2, 2}
			ks[place] = k
			refused(t, start, 5, layers, ks, k)
		}
	}
	for _, n := range []int{1, 2, 128, 254, 255} {
		made(t, start, n, layers[:1], []int{n})
		refused(t, start, n, layers[:1], []int{n + 1})
		refused(t, start, n, layers[:1], []int{0})
		made(t, start, n, layers[:2], []int{1, n})
		if n > 1 {
			refused(t, start, n, layers[:2], []int{n, 1}, "falling")
		}
	}
}

// Several faults at once are one.
func TestWithOfSeveralFaults(t *testing.T) {
	for _, s := range []frame.Start{start, {}, {Stream: -1, Frame: 1}, {Frame: 1 << 31}, {Frame: 1, Deadline: math.MinInt}, {Stream: math.MaxInt, Frame: math.MaxInt, Deadline: math.MaxInt}} {
		for _, n := range []int{-1, 0, 1, 255, 256, math.MaxInt, math.MinInt} {
			for _, layers := range [][][]byte{nil, {{1}}, {some(65536, 1)}, make([][]byte, 9)} {
				for _, ks := range [][]int{nil, {0}, {1}, {2, 1}, {math.MaxInt}, slices.Repeat([]int{1}, 9)} {
					if s == start && (n == 1 || n == 255) && len(layers) == 1 && len(layers[0]) == 1 && slices.Equal(ks, []int{1}) {
						made(t, s, n, layers, ks)
					} else {
						refused(t, s, n, layers, ks)
					}
				}
			}
		}
	}
}

// What With tells is what the layers below tell: bodies are lay's, datagrams head's.
func TestWithAsTheLayersBelow(t *testing.T) {
	for seed, k := range kinds() {
		layers := k.layers(seed)
		bodies, e := lay.Bodies(k.n, layers, k.ks)
		l, f := frame.With(start, k.n, layers, k.ks)
		if e != api.OK || f != api.OK || len(l) != len(bodies) {
			t.Fatal(k, len(l), len(bodies), e, f)
		}
		h := api.Head{Stream: start.Stream, Frame: start.Frame, N: k.n, Deadline: start.Deadline, Rows: tabled(layers, k.ks)}
		for h.Index = range bodies {
			if b, e := head.Put(h, bodies[h.Index]); e != api.OK || !slices.Equal(b, l[h.Index]) {
				t.Error(k, h.Index, e)
			}
		}
	}
}
