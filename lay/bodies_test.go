package lay_test

import (
	"slices"
	"testing"

	"hourglass/api"
	"hourglass/lay"
)

// times is the product of two bytes.
func times(a, b byte) byte {
	p := byte(0)
	for ; b > 0; b >>= 1 {
		if b&1 == 1 {
			p ^= a
		}
		over := a >> 7
		a = a<<1 ^ over*0x1D
	}
	return p
}

// over is an inverse: the power to 254.
func over(a byte) byte {
	p := byte(1)
	for range 254 {
		p = times(p, a)
	}
	return p
}

// weights are those by which a polynomial's value at a byte is the sum of its values at points.
func weights(at int, points ...int) []byte {
	out := make([]byte, len(points))
	for i, x := range points {
		up, down := byte(1), byte(1)
		for j, other := range points {
			if i != j {
				up, down = times(up, byte(at)^byte(other)), times(down, byte(x)^byte(other))
			}
		}
		if up != 0 {
			out[i] = times(up, over(down))
		}
	}
	return out
}

// elsewhere is, at each place, the value of the polynomial whose values at points are those of rows.
func elsewhere(at int, list [][]byte, points ...int) []byte {
	out := make([]byte, len(list[0]))
	for i, weight := range weights(at, points...) {
		for place, b := range list[i] {
			out[place] ^= times(weight, b)
		}
	}
	return out
}

// upTo is the numbers below n, in order.
func upTo(n int) []int {
	out := make([]int, n)
	for i := range out {
		out[i] = i
	}
	return out
}

// cut is k rows of their width: one behind the other they are the bytes, and noughts behind them.
func cut(b []byte, k int) [][]byte {
	out, w := make([][]byte, k), width(len(b), k)
	for row := range out {
		out[row] = make([]byte, w)
		for i := range out[row] {
			if place := row*w + i; place < len(b) {
				out[row][i] = b[place]
			}
		}
	}
	return out
}

// bodies are those of layers, layer by layer.
func bodies(n int, layers [][]byte, ks []int) [][]byte {
	out := make([][]byte, n)
	for i, layer := range layers {
		source := cut(layer, ks[i])
		for index := range out {
			out[index] = append(out[index], elsewhere(index, source, upTo(ks[i])...)...)
		}
	}
	return out
}

// of are layers of a table, by a rule.
func of(table []api.Row, seed int) (layers [][]byte, ks []int) {
	for i, row := range table {
		layers = append(layers, some(row.Len, seed+i*7))
		ks = append(ks, row.K)
	}
	return layers, ks
}

// made asks for bodies, and whether they are those of the words.
func made(t *testing.T, n int, layers [][]byte, ks []int) [][]byte {
	t.Helper()
	l, e := lay.Bodies(n, layers, ks)
	if e != api.OK || !same(l, bodies(n, layers, ks)) {
		t.Errorf("n %d, ks %v: %d bodies, %d", n, ks, len(l), e)
	}
	return l
}

// unmade asks whether Bodies tells that layers may not be, and nothing beside it.
func unmade(t *testing.T, n int, layers [][]byte, ks []int) {
	t.Helper()
	if l, e := lay.Bodies(n, layers, ks); e != api.ErrArg || len(l) != 0 {
		t.Errorf("n %d, %d layers, ks %v: %d bodies, %d", n, len(layers), ks, len(l), e)
	}
}

// frames are tables, each for an n: ordinary ones, and those of the edges.
func frames() map[string]struct {
	n     int
	table []api.Row
} {
	return map[string]struct {
		n     int
		table []api.Row
	}{
		"the chapter's":    {3, rows(1, 1, 2, 2)},
		"the least":        {1, rows(1, 0)},
		"one byte":         {1, rows(1, 1)},
		"one datagram":     {1, rows(1, 5, 1, 0, 1, 3)},
		"eight of one":     {1, rows(1, 1, 1, 2, 1, 3, 1, 4, 1, 5, 1, 6, 1, 7, 1, 8)},
		"no bytes at all":  {5, rows(1, 0, 2, 0, 5, 0)},
		"none first":       {4, rows(1, 0, 2, 9)},
		"none between":     {4, rows(1, 3, 2, 0, 2, 9)},
		"none last":        {4, rows(1, 3, 2, 9, 4, 0)},
		"just divided":     {6, rows(2, 8, 3, 9, 6, 12)},
		"one more":         {6, rows(2, 9, 3, 10, 6, 13)},
		"one less":         {6, rows(2, 7, 3, 8, 6, 11)},
		"fewer than rows":  {7, rows(4, 1, 5, 2, 7, 3)},
		"all the same":     {5, rows(3, 10, 3, 11, 3, 12, 3, 1)},
		"all of them":      {5, rows(5, 10, 5, 11)},
		"each one":         {8, rows(1, 8, 2, 16, 3, 24, 4, 32, 5, 40, 6, 48, 7, 56, 8, 64)},
		"ordinary":         {20, rows(3, 100, 8, 250, 8, 33, 15, 700)},
		"eight ordinary":   {40, rows(4, 31, 9, 8, 9, 90, 17, 1, 18, 44, 30, 99, 33, 33, 40, 161)},
		"many":             {255, rows(1, 2, 20, 41, 40, 3)},
		"many that repair": {200, rows(60, 200)},
		"the most":         {255, rows(1, 1, 254, 255, 255, 256)},
	}
}

// P10.2

func TestBodiesThatAreWrittenOut(t *testing.T) {
	for i, x := range []struct {
		n      int
		layers [][]byte
		ks     []int
		want   [][]byte
	}{
		{1, [][]byte{{}}, []int{1}, [][]byte{{}}}, {1, [][]byte{{9}}, []int{1}, [][]byte{{9}}}, {2, [][]byte{nil}, []int{2}, [][]byte{{}, {}}},
		{3, [][]byte{{5}, {}, {7, 8}, {1, 2, 3}}, []int{1, 1, 2, 3}, [][]byte{{5, 7, 1}, {5, 8, 2}, {5, 25, 3}}},
		{4, [][]byte{{5, 4}}, []int{2}, [][]byte{{5}, {4}, {7}, {6}}}, {4, [][]byte{{5, 5, 4, 4}}, []int{2}, [][]byte{{5, 5}, {4, 4}, {7, 7}, {6, 6}}}, {4, [][]byte{{5, 4, 4}}, []int{2}, [][]byte{{5, 4}, {4, 0}, {7, 12}, {6, 8}}},
		{2, [][]byte{{1, 2, 3}}, []int{1}, [][]byte{{1, 2, 3}, {1, 2, 3}}}, {2, [][]byte{{1, 2, 3}}, []int{2}, [][]byte{{1, 2}, {3, 0}}}, {3, [][]byte{{6}}, []int{3}, [][]byte{{6}, {0}, {0}}},
	} {
		if l, e := lay.Bodies(x.n, x.layers, x.ks); e != api.OK || !same(l, x.want) {
			t.Error(i, l, e)
		}
	}
}

func TestBodies(t *testing.T) {
	for name, x := range frames() {
		layers, ks := of(x.table, x.n)
		l := made(t, x.n, layers, ks)
		long, e := lay.Long(x.n, x.table)
		for i, body := range l {
			if len(body) != long || e != api.OK {
				t.Error(name, i, len(body), long, e)
			}
		}
	}
}

// Of few layers all thresholds that may be.
func TestBodiesOfAllThresholds(t *testing.T) {
	for n := 1; n <= 5; n++ {
		for a := -1; a <= n+1; a++ {
			for b := -1; b <= n+1; b++ {
				for long := range 7 {
					layers, ks := [][]byte{some(long, a+n), some(7-long, b+n)}, []int{a, b}
					if right(n, rows(a, long, b, 7-long)) {
						made(t, n, layers, ks)
					} else {
						unmade(t, n, layers, ks)
					}
				}
			}
		}
	}
}

// Where all are needed, bodies are the layers' rows.
func TestBodiesOfAsManyAsThereAre(t *testing.T) {
	for _, n := range []int{1, 2, 3, 7, 16, 254, 255} {
		for _, long := range []int{0, 1, n - 1, n, n + 1, 3*n - 1} {
			layer := some(long, n)
			if l, e := lay.Bodies(n, [][]byte{layer}, []int{n}); e != api.OK || !same(l, cut(layer, n)) {
				t.Error(n, long, e)
			}
		}
	}
}

// Where one is enough, each body has all.
func TestBodiesOfOneThatIsEnough(t *testing.T) {
	for _, n := range []int{1, 2, 3, 254, 255} {
		layer := some(30, n)
		if l, e := lay.Bodies(n, [][]byte{layer}, []int{1}); e != api.OK || !same(l, slices.Repeat([][]byte{layer}, n)) {
			t.Error(n, e)
		}
	}
}

func TestBodiesOfTheLongestLayers(t *testing.T) {
	layers, ks := make([][]byte, 8), []int{250, 251, 252, 253, 254, 254, 255, 255}
	for i := range layers {
		layers[i] = some(65535, i)
	}
	l, e := lay.Bodies(255, layers, ks)
	if e != api.OK || len(l) != 255 {
		t.Fatal(len(l), e)
	}
	from := 0
	for i, layer := range layers {
		source, w := cut(layer, ks[i]), width(65535, ks[i])
		for index, body := range l {
			if index < ks[i] && !slices.Equal(body[from:from+w], source[index]) || index >= ks[i] && !slices.Equal(body[from:from+w], elsewhere(index, source, upTo(ks[i])...)) {
				t.Error(i, index)
			}
		}
		from += w
	}
}

func TestBodiesOfLayersWithoutBytes(t *testing.T) {
	for n := 1; n <= 255; n += 1 + n%20 {
		for _, layers := range [][][]byte{{nil}, {{}}, {nil, {}, nil}, {{}, nil, {}}, make([][]byte, 8)} {
			ks := slices.Repeat([]int{n}, len(layers))
			ks[0] = 1
			if l, e := lay.Bodies(n, layers, ks); e != api.OK || !same(l, make([][]byte, n)) {
				t.Error(n, len(layers), l, e)
			}
		}
	}
	a, e := lay.Bodies(4, [][]byte{{1, 2}, nil, {3, 4, 5}}, []int{1, 2, 3})
	if b, f := lay.Bodies(4, [][]byte{{1, 2}, {}, {3, 4, 5}}, []int{1, 2, 3}); e != api.OK || f != api.OK || !same(a, b) {
		t.Error(a, b, e, f)
	}
}

func TestBodiesOfAsManyLayers(t *testing.T) {
	for layers := range 12 {
		for thresholds := range 12 {
			list, ks := slices.Repeat([][]byte{{1, 2}}, layers), slices.Repeat([]int{2}, thresholds)
			if layers == thresholds && layers >= 1 && layers <= 8 {
				made(t, 3, list, ks)
			} else {
				unmade(t, 3, list, ks)
			}
		}
	}
	unmade(t, 3, nil, nil)
	unmade(t, 3, [][]byte{}, []int{})
	unmade(t, 3, nil, []int{1})
	unmade(t, 3, [][]byte{{1}}, nil)
	for _, many := range []int{256, 257, 264, 65536, 65537} {
		unmade(t, 3, make([][]byte, many), slices.Repeat([]int{1}, many))
		unmade(t, 3, make([][]byte, many), []int{1})
		unmade(t, 3, [][]byte{{1}}, slices.Repeat([]int{1}, many))
	}
}

func TestBodiesOfNsThatAreNone(t *testing.T) {
	for _, n := range wrongNs {
		for _, ks := range [][]int{{1}, {3}, {n}, {255}} {
			unmade(t, n, [][]byte{{1, 2, 3}}, ks)
			unmade(t, n, [][]byte{nil}, ks)
		}
		unmade(t, n, nil, nil)
	}
}

func TestBodiesOfThresholdsThatAreNone(t *testing.T) {
	for _, n := range []int{1, 2, 100, 255} {
		for _, k := range append([]int{n + 1, n + 2}, wrongNs...) {
			for _, layer := range [][]byte{nil, {}, {1}, some(300, n)} {
				unmade(t, n, [][]byte{layer}, []int{k})
				unmade(t, n, [][]byte{{1}, layer}, []int{1, k})
				unmade(t, n, [][]byte{layer, {1}}, []int{k, n})
				unmade(t, n, [][]byte{layer, {1}}, []int{k, k})
			}
		}
	}
	layers, ks := of(steps(), 1)
	for place := 1; place < 8; place++ {
		sunk := slices.Clone(ks)
		sunk[place] = sunk[place-1] - 1
		unmade(t, 100, layers, sunk)
	}
	unmade(t, 79, layers, ks)
}

func TestBodiesOfLayersThatAreTooLong(t *testing.T) {
	for _, long := range []int{65536, 65537, 131071, 1 << 17, 1 << 20} {
		for place := range 8 {
			layers := slices.Repeat([][]byte{{1}}, 8)
			layers[place] = make([]byte, long)
			unmade(t, 3, layers, slices.Repeat([]int{3}, 8))
		}
	}
}
