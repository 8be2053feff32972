package lay_test

import (
	"slices"
	"testing"

	"hourglass/api"
	"hourglass/code"
	"hourglass/lay"
	"hourglass/strip"
)

// hold is the bodies at some places, each with its index.
func hold(l [][]byte, indexes ...int) []code.Held {
	out := make([]code.Held, len(indexes))
	for i, index := range indexes {
		out[i] = code.Held{Index: index, Bytes: l[index]}
	}
	return out
}

// order is the numbers below n, in an order by a rule.
func order(n, seed int) []int {
	out := upTo(n)
	for i, x := range some(n, seed) {
		j := (int(x) + seed) % n
		out[i], out[j] = out[j], out[i]
	}
	return out
}

// arrangements calls with any unlike ones of the numbers below n, as many as may be, in any order.
func arrangements(n int, call func(indexes []int)) {
	var indexes []int
	var more func()
	more = func() {
		call(slices.Clone(indexes))
		for i := range n {
			if !slices.Contains(indexes, i) {
				indexes = append(indexes, i)
				more()
				indexes = indexes[:len(indexes)-1]
			}
		}
	}
	more()
}

// gathered is the layers of bodies, whatever they have: layer by layer, of the first ones, by the words.
func gathered(table []api.Row, held []code.Held) [][]byte {
	out, from := [][]byte{}, 0
	for _, row := range table {
		if row.K > len(held) {
			break
		}
		w := width(row.Len, row.K)
		var points []int
		var stripes [][]byte
		for _, body := range held[:row.K] {
			points, stripes = append(points, body.Index), append(stripes, body.Bytes[from:from+w])
		}
		var layer []byte
		for at := range row.K {
			layer = append(layer, elsewhere(at, stripes, points...)...)
		}
		out = append(out, layer[:row.Len])
		from += w
	}
	return out
}

// got asks what layers are gathered.
func got(t *testing.T, n int, table []api.Row, held []code.Held, want [][]byte) {
	t.Helper()
	if l, e := lay.Gather(n, table, held...); e != api.OK || !same(l, want) {
		t.Errorf("n %d, %v, %d held: %d layers, not %d: %d", n, table, len(held), len(l), len(want), e)
	}
}

// ungot asks whether Gather tells an error, and nothing beside it.
func ungot(t *testing.T, n int, table []api.Row, held []code.Held, want api.Errno) {
	t.Helper()
	if l, e := lay.Gather(n, table, held...); e != want || len(l) != 0 {
		t.Errorf("n %d, %v, %d held: %d layers, %d, not %d", n, table, len(held), len(l), e, want)
	}
}

// noise is n rows of bytes, each as long as a body, that are of no layers.
func noise(n int, table []api.Row, seed int) [][]byte {
	out := make([][]byte, n)
	for i := range out {
		out[i] = some(long(table), seed+3*i)
	}
	return out
}

// P10.3

func TestGatherInAnyOrder(t *testing.T) {
	for n, table := range [][]api.Row{1: rows(1, 3, 1, 0, 1, 2), 2: rows(1, 5, 2, 3, 2, 4), 3: rows(1, 1, 1, 0, 2, 2, 3, 3), 4: rows(2, 5, 2, 1, 3, 7, 4, 4), 5: rows(1, 2, 3, 7, 4, 0, 5, 11)} {
		if n == 0 {
			continue
		}
		layers, ks := of(table, n)
		l := made(t, n, layers, ks)
		arrangements(n, func(indexes []int) {
			got(t, n, table, hold(l, indexes...), layers[:ready(table, len(indexes))])
		})
	}
}

// Of each frame so many of its bodies as there may be, in orders by a rule.
func TestGatherAsManyAsMayBe(t *testing.T) {
	for name, x := range frames() {
		layers, ks := of(x.table, x.n)
		l, e := lay.Bodies(x.n, layers, ks)
		if e != api.OK {
			t.Fatal(name, e)
		}
		for many := 0; many <= x.n; many += 1 + many/12 {
			got(t, x.n, x.table, hold(l, order(x.n, many)[:many]...), layers[:ready(x.table, many)])
		}
		for _, k := range ks {
			for many := max(0, k-1); many <= min(x.n, k+1); many++ {
				got(t, x.n, x.table, hold(l, order(x.n, 5*many+1)[:many]...), layers[:ready(x.table, many)])
			}
		}
		for seed, indexes := range [][]int{upTo(x.n), order(x.n, 1), order(x.n, 2)} {
			got(t, x.n, x.table, hold(l, indexes...), layers)
			slices.Reverse(indexes)
			got(t, x.n, x.table, hold(l, indexes...), layers)
			if got, f := lay.Ready(x.n, x.table, x.n); got != len(layers) || f != api.OK {
				t.Error(name, seed, got, f)
			}
		}
	}
}

func TestGatherOfNone(t *testing.T) {
	for name, x := range frames() {
		if l, e := lay.Gather(x.n, x.table); e != api.OK || len(l) != 0 {
			t.Error(name, l, e)
		}
		if l, e := lay.Gather(x.n, x.table, []code.Held{}...); e != api.OK || len(l) != 0 {
			t.Error(name, l, e)
		}
	}
}

// Fewer than the first threshold are enough for nothing, whatever they are; but they may not be wrong.
func TestGatherOfFewerThanAreEnough(t *testing.T) {
	table := rows(3, 4, 3, 1)
	l := noise(5, table, 1)
	for _, indexes := range [][]int{nil, {0}, {4}, {4, 0}, {1, 2}} {
		got(t, 5, table, hold(l, indexes...), nil)
	}
	ungot(t, 5, table, hold(l, 4, 4), api.ErrTwice)
	ungot(t, 5, table, []code.Held{{Index: 5, Bytes: l[0]}}, api.ErrArg)
	ungot(t, 5, table, []code.Held{{Index: 4, Bytes: l[0][1:]}}, api.ErrArg)
}

// Bodies of no layers are held, more than are wanted: each layer is decoded of the first ones alone, in the order in which they are held.
func TestGatherOfTheFirst(t *testing.T) {
	for name, x := range frames() {
		if x.n > 60 {
			continue
		}
		l := noise(x.n, x.table, x.n)
		for seed := range 4 {
			indexes := order(x.n, seed)
			for many := 0; many <= x.n; many += 1 + many/5 {
				held := hold(l, indexes[:many]...)
				got(t, x.n, x.table, held, gathered(x.table, held))
			}
			held := hold(l, indexes...)
			a, e := lay.Gather(x.n, x.table, held...)
			last := x.table[len(x.table)-1].K
			if b, f := lay.Gather(x.n, x.table, held[:last]...); e != api.OK || f != api.OK || !same(a, b) {
				t.Error(name, seed, "what stands behind the first ones counts", e, f)
			}
		}
	}
}

// One body that is held is another one: of those layers it is decoded for which it stands among the first.
func TestGatherWithABodyThatIsAnother(t *testing.T) {
	table := rows(1, 4, 2, 9, 4, 11, 5, 20)
	layers, ks := of(table, 3)
	l := made(t, 7, layers, ks)
	for seed := range 20 {
		indexes := order(7, seed)
		for place := range 7 {
			held := hold(l, indexes...)
			held[place].Bytes = some(long(table), 99+seed)
			a, e := lay.Gather(7, table, held...)
			if e != api.OK || !same(a, gathered(table, held)) {
				t.Fatal(seed, place, a, e)
			}
			for i, layer := range a {
				if place >= ks[i] && !slices.Equal(layer, layers[i]) {
					t.Error(seed, place, i)
				}
			}
		}
	}
}

// Held in another order, bodies that do not agree tell other layers.
func TestGatherInTheOrderOfWhatIsHeld(t *testing.T) {
	table := rows(1, 3, 2, 4)
	l := noise(3, table, 5)
	for _, x := range [][]int{{0, 1, 2}, {2, 1, 0}, {1, 2, 0}, {1, 0, 2}, {2, 0, 1}} {
		a, e := lay.Gather(3, table, hold(l, x...)...)
		if e != api.OK || len(a) != 2 || !slices.Equal(a[0], l[x[0]][:3]) || !same(a, gathered(table, hold(l, x...))) {
			t.Error(x, a, e)
		}
	}
}

// As the calls of the layers below tell it.
func TestGatherAsACoderDecodes(t *testing.T) {
	n, table := 30, rows(2, 9, 9, 100, 25, 60)
	for seed := range 10 {
		held, from := hold(noise(n, table, seed), order(n, seed)...), 0
		l, e := lay.Gather(n, table, held...)
		if e != api.OK || len(l) != len(table) {
			t.Fatal(seed, len(l), e)
		}
		for i, row := range table {
			w, _ := strip.Width(row.Len, row.K)
			stripes := slices.Clone(held)
			for j := range stripes {
				stripes[j].Bytes = stripes[j].Bytes[from : from+w]
			}
			coder, _ := code.New(n, row.K)
			source, _ := coder.Decode(stripes...)
			if layer, f := strip.Join(source, row.Len); f != api.OK || !slices.Equal(layer, l[i]) {
				t.Error(seed, i, f)
			}
			from += w
		}
	}
}

// Each layer has just its bytes: the noughts behind them are not told, nor is what else stands there.
func TestGatheredLayersHaveTheirLengths(t *testing.T) {
	for n := 1; n <= 9; n++ {
		for k := 1; k <= n; k++ {
			for long := range 3*k + 2 {
				table := rows(k, long, n, 1)
				l, e := lay.Gather(n, table, hold(noise(n, table, long), order(n, k)...)...)
				if e != api.OK || len(l) != 2 || len(l[0]) != long || len(l[1]) != 1 {
					t.Fatal(n, k, long, l, e)
				}
			}
		}
	}
}

// A table that is none counts first, whatever is held.
func TestGatherOfTablesThatAreNone(t *testing.T) {
	l := [][]byte{{1, 2}, {3, 4}, {5, 6}}
	kinds := [][]code.Held{nil, hold(l, 0), hold(l, 0, 1), hold(l, 1, 1), {{Index: -1}, {Index: 300}}, {{}}, {{}, {}}, {{Index: 0, Bytes: l[0][:1]}, {Index: 0}}}
	for _, table := range [][]api.Row{nil, {}, rows(0, 2), rows(-1, 2), rows(4, 2), rows(256, 2), rows(1<<32+1, 2), rows(2, 1, 1, 1), rows(1, -1), rows(1, 65536), rows(1, 2, 1, -1), rows(1, 1, 2, 1, 4, 1), rows(0, 0), make([]api.Row, 8), slices.Repeat(rows(1, 0), 9), slices.Repeat(rows(1, 1), 257)} {
		for _, held := range kinds {
			ungot(t, 3, table, held, api.ErrArg)
		}
	}
	for _, n := range wrongNs {
		for _, table := range [][]api.Row{nil, rows(1, 2), rows(n, 2), rows(1, 0), rows(n, 0)} {
			for _, held := range kinds {
				ungot(t, n, table, held, api.ErrArg)
			}
		}
	}
}

func TestGatherOfIndexesThatAreNone(t *testing.T) {
	table := rows(1, 2, 3, 5)
	for _, n := range []int{3, 4, 100, 254, 255} {
		l := noise(n, table, 1)
		for _, index := range []int{-1, -2, -255, -256, n, n + 1, n + 256, 255, 256, 65536, 1<<31 - 1, 1 << 32, 1<<32 + 1, 1 - 1<<32, -1 << 62, 1<<63 - 1, -1 << 63} {
			ungot(t, n, table, []code.Held{{Index: index, Bytes: l[0]}}, api.ErrArg)
			for place := range 4 {
				held := append(hold(l, 2, 0, 1), code.Held{Index: n - 1, Bytes: l[0]})[:min(n, 4)]
				if place < len(held) {
					held[place].Index = index
					ungot(t, n, table, held, api.ErrArg)
				}
			}
		}
		got(t, n, table, hold(l, n-1), [][]byte{l[n-1][:2]})
		got(t, n, table, hold(l, 0), [][]byte{l[0][:2]})
	}
}

// Each body, at each place, has one byte too few, one too many, none, or others.
func TestGatherOfBodiesOfOtherLengths(t *testing.T) {
	for _, table := range [][]api.Row{rows(1, 2, 3, 5), rows(1, 0), rows(2, 1, 3, 300), rows(4, 0, 5, 3)} {
		right, l := long(table), noise(6, table, 1)
		for _, many := range []int{1, 2, 3, 6} {
			for place := range many {
				for _, other := range []int{0, 1, right - 2, right - 1, right + 1, right + 2, 2*right + 1, right + 256, right + 65536} {
					if other < 0 || other == right {
						continue
					}
					held := hold(l, order(6, many)[:many]...)
					held[place].Bytes = make([]byte, other)
					ungot(t, 6, table, held, api.ErrArg)
				}
			}
			held := hold(l, upTo(many)...)
			for i := range held { // they are all as long, but not as a body
				held[i].Bytes = make([]byte, right+1)
			}
			ungot(t, 6, table, held, api.ErrArg)
		}
	}
}

// Where bodies have no bytes, those that are nil are right.
func TestGatherOfBodiesWithoutBytes(t *testing.T) {
	table := rows(1, 0, 2, 0)
	got(t, 3, table, []code.Held{{Index: 2}}, [][]byte{{}})
	got(t, 3, table, []code.Held{{Index: 2}, {Index: 0, Bytes: []byte{}}}, [][]byte{{}, {}})
	ungot(t, 3, table, []code.Held{{Index: 2}, {Index: 2}}, api.ErrTwice)
	ungot(t, 3, table, []code.Held{{Index: 2, Bytes: []byte{0}}}, api.ErrArg)
	ungot(t, 3, rows(1, 1), []code.Held{{Index: 2}}, api.ErrArg)
}

func TestGatherOfAnIndexTwice(t *testing.T) {
	table := rows(1, 2, 3, 5)
	l := noise(255, table, 1)
	for _, n := range []int{3, 4, 7, 255} {
		for _, many := range []int{2, 3, 4, 7, 200, 255} {
			if many > n {
				continue
			}
			for _, at := range [][2]int{{0, 1}, {0, many - 1}, {many - 2, many - 1}, {many / 2, many - 1}, {many / 2, 0}} {
				held := hold(l, order(n, many)[:many]...)
				if at[0] == at[1] {
					continue
				}
				held[at[0]] = held[at[1]]
				ungot(t, n, table, held, api.ErrTwice)
				held[at[0]].Bytes = noise(1, table, 88)[0] // with other bytes it stands twice, too
				ungot(t, n, table, held, api.ErrTwice)
			}
		}
	}
	for index := range 255 {
		ungot(t, 255, table, hold(l, index, index), api.ErrTwice)
		ungot(t, 255, table, hold(l, index, (index+1)%255, (index+2)%255, index), api.ErrTwice) // behind the first ones
	}
}

// More than there are: one stands twice.
func TestGatherOfMoreThanThereAre(t *testing.T) {
	table := rows(1, 2)
	for _, n := range []int{1, 2, 100, 255} {
		l := noise(n, table, 1)
		for _, more := range []int{1, 2, 300} {
			held := hold(l, upTo(n)...)
			for i := range more {
				held = append(held, code.Held{Index: i % n, Bytes: l[0]})
			}
			ungot(t, n, table, held, api.ErrTwice)
			held[len(held)-1].Index = n
			ungot(t, n, table, held, api.ErrArg)
		}
	}
}

// What may not be counts ahead of what stands twice, wherever either stands.
func TestOrderOfTheErrors(t *testing.T) {
	table := rows(1, 2, 3, 5)
	l := noise(5, table, 1)
	short, alien := code.Held{Index: 4, Bytes: l[4][1:]}, code.Held{Index: 5, Bytes: l[4]}
	for _, wrong := range []code.Held{short, alien, {Index: -1, Bytes: l[0]}, {Index: 1, Bytes: append(slices.Clone(l[1]), 0)}, {}} {
		for place := range 6 {
			held := slices.Insert(hold(l, 1, 1, 2, 3, 2), place, wrong)
			ungot(t, 5, table, held, api.ErrArg)
			ungot(t, 5, rows(6, 0), held, api.ErrArg)
		}
	}
	ungot(t, 5, table, hold(l, 1, 1, 2, 3, 2), api.ErrTwice)
	ungot(t, 2, rows(3, 5), hold(l, 1, 1), api.ErrArg)
}

// P10.4

// Of bodies of layers any so many give just the layers whose threshold is at most so many.
func TestAnyBodiesGiveTheFirstLayers(t *testing.T) {
	for seed := range 40 {
		n := 1 + seed*13%40
		table, least := []api.Row(nil), 1
		for i := range 1 + seed%8 {
			least += (seed + i) % 5 * (n - least) / 9
			table = append(table, api.Row{K: least, Len: (seed*31 + i*17) % 120})
		}
		layers, ks := of(table, seed)
		l, e := lay.Bodies(n, layers, ks)
		if e != api.OK {
			t.Fatal(n, table, e)
		}
		for many := range n + 1 {
			indexes := order(n, seed+many)[:many]
			a, f := lay.Gather(n, table, hold(l, indexes...)...)
			want, g := lay.Ready(n, table, many)
			if f != api.OK || g != api.OK || len(a) != want || !same(a, layers[:want]) {
				t.Fatal(n, table, indexes, f, g, len(a), want)
			}
		}
	}
}

func TestTheLongestLayersComeBack(t *testing.T) {
	table := rows(1, 65535, 2, 65534, 128, 65535, 253, 65535, 254, 65535, 255, 65535, 255, 65535, 255, 65535)
	layers, ks := of(table, 4)
	l, e := lay.Bodies(255, layers, ks)
	if e != api.OK {
		t.Fatal(e)
	}
	for _, many := range []int{0, 1, 2, 127, 128, 129, 252, 253, 254, 255} {
		indexes := order(255, many)
		slices.Reverse(indexes)
		got(t, 255, table, hold(l, indexes[:many]...), layers[:ready(table, many)])
	}
}
