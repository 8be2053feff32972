package cache_test

import (
	"bytes"
	"math"
	"reflect"
	"slices"
	"testing"

	"hourglass/api"
	"hourglass/cache"
	"hourglass/code"
)

func TestExample(t *testing.T) {
	p := paired(t, 4, 1)
	p.turn(2, 0, 1)
	p.turn(2, 0, 2)
	p.turn(2, 0, 1)
	if s := p.Stat(); s != (cache.Stat{Kept: 1, Misses: 3, Dropped: 2}) {
		t.Error(s)
	}
	p = paired(t, 4, 1)
	l := symbols(t, 4, 2, 3, 1)
	p.decode(2, hold(l, 0, 1)...)
	p.decode(2, hold(l, 0, 2)...)
	p.decode(2, hold(l, 0, 1)...)
	if s := p.Stat(); s != (cache.Stat{Kept: 1, Misses: 3, Dropped: 2}) {
		t.Error(s)
	}
}

// By the bytes that are written out in the chapter of code.
func TestExampleOfACoder(t *testing.T) {
	c := made(t, 4, 2)
	for range 3 {
		if m, e := c.Turn(2, 2, 3); e != api.OK || !same(m, [][]byte{{3, 2}, {2, 3}}) {
			t.Error(m, e)
		}
		if l, e := c.Decode(2, code.Held{Index: 2, Bytes: []byte{7}}, code.Held{Index: 3, Bytes: []byte{6}}); e != api.OK || !same(l, [][]byte{{5}, {4}}) {
			t.Error(l, e)
		}
	}
	if s := c.Stat(); s != (cache.Stat{Kept: 1, Hits: 5, Misses: 1}) {
		t.Error(s)
	}
}

// P6.1

func TestNewOfSizes(t *testing.T) {
	if cache.MaxRoom != 64 {
		t.Error(cache.MaxRoom)
	}
	sizes := []int{math.MinInt, math.MinInt32, -256, -255, -64, -2, -1, 0, 1, 2, 3, 63, 64, 65, 66, 127, 128, 254, 255, 256, 257, 320, 511, 65537, 1<<32 + 1, math.MaxInt32, math.MaxInt}
	for _, n := range sizes {
		for _, room := range sizes {
			fault := api.ErrArg
			if n >= 1 && n <= 255 && room >= 1 && room <= 64 {
				fault = api.OK
			}
			c, e := cache.New(n, room)
			if e != fault || (c != nil) != (e == api.OK) {
				t.Error(n, room, c != nil, e)
			}
			if c == nil {
				continue
			}
			if s := c.Stat(); s != (cache.Stat{}) || c.Has(1, 0) {
				t.Error(n, room, s)
			}
		}
	}
	for n := range 258 {
		c, e := cache.New(n, 64)
		if right := n >= 1 && n <= 255; (e == api.OK) != right || (c != nil) != right {
			t.Error(n, c != nil, e)
		}
	}
	for room := range 70 {
		c, e := cache.New(9, room)
		if right := room >= 1 && room <= 64; (e == api.OK) != right || (c != nil) != right {
			t.Error(room, c != nil, e)
		}
	}
}

func TestCallsOfACache(t *testing.T) {
	var names []string
	for method := range reflect.TypeFor[*cache.Cache]().Methods() {
		names = append(names, method.Name)
	}
	slices.Sort(names)
	if !slices.Equal(names, []string{"Decode", "Has", "Stat", "Turn"}) { // others would panic of no cache
		t.Error(names)
	}
}

func TestHasOfWhatHasNoKey(t *testing.T) {
	c := made(t, 255, 64)
	if c.Has(1) || c.Has(1, 0) || c.Has(0) || c.Has(0, 0) {
		t.Error("nothing was asked for")
	}
	for k := 1; k <= 5; k++ {
		if _, e := c.Turn(k, 0, 1, 2, 3, 4); e != api.OK {
			t.Fatal(k, e)
		}
	}
	if _, e := c.Turn(255, order(255, 1)...); e != api.OK {
		t.Fatal(e)
	}
	before := c.Stat()
	for _, k := range []int{math.MinInt, math.MinInt32, -256, -255, -2, -1, 0, 6, 254, 256, 257, 258, 1<<32 + 2, math.MaxInt32, math.MaxInt} {
		for _, indexes := range [][]int{nil, {}, {0}, {0, 1}, {0, 1, 2, 3, 4}, order(255, 1), make([]int, 70000)} {
			if c.Has(k, indexes...) {
				t.Error(k, len(indexes))
			}
		}
	}
	for k := 1; k <= 5; k++ {
		all := []int{0, 1, 2, 3, 4}
		for many := range 6 {
			if c.Has(k, all[:many]...) != (many >= k) {
				t.Error("fewer, as many, more", k, many)
			}
		}
		for _, off := range []int{256, -256, 512, 255, -255, -1, 1 << 32, math.MinInt} { // as bytes some would be the same
			for place := range k {
				other := slices.Clone(all)
				other[place] += off
				if c.Has(k, other...) {
					t.Error(k, other)
				}
			}
		}
	}
	whole := order(255, 1)
	if !c.Has(255, whole...) || c.Has(255, whole[:254]...) || c.Has(254, whole...) {
		t.Error("the greatest")
	}
	whole[254] = 255
	if c.Has(255, whole...) {
		t.Error("an index that is none")
	}
	if s := c.Stat(); s != before {
		t.Error(s, before)
	}
}

// The key is k and the first k alone: what stands behind these, right or not, does not matter to Has.
func TestHasOfMoreThanEnough(t *testing.T) {
	c := made(t, 6, 3)
	if _, e := c.Turn(2, 4, 1); e != api.OK {
		t.Fatal(e)
	}
	for _, more := range [][]int{nil, {0}, {0, 2, 3, 5}, {4}, {1, 1}, {6}, {-1}, {math.MaxInt}, {260}, make([]int, 300)} {
		if !c.Has(2, append([]int{4, 1}, more...)...) || c.Has(2, append([]int{1, 4}, more...)...) {
			t.Error(more)
		}
	}
}

// P6.2

// kinds are n, k, and how long rows are.
func kinds() [][3]int {
	return [][3]int{
		{1, 1, 1}, {1, 1, 40}, {2, 1, 3}, {2, 2, 3}, {3, 2, 0}, {3, 2, 1}, {4, 2, 2}, {4, 3, 7}, {5, 5, 9}, {7, 4, 33}, {9, 1, 12}, {12, 11, 5}, {30, 10, 256}, {31, 31, 20}, {64, 32, 17}, {6, 3, 1500}, {5, 2, 70000},
		{254, 1, 4}, {254, 253, 1}, {255, 1, 3}, {255, 2, 4}, {255, 128, 3}, {255, 254, 1}, {255, 255, 1}, {255, 100, 0},
	}
}

func TestTurnAndDecodeAreACodersOwn(t *testing.T) {
	for i, x := range kinds() {
		n, k, wide := x[0], x[1], x[2]
		p, l, indexes := paired(t, n, 4), symbols(t, n, k, wide, i), order(n, i)
		for _, many := range []int{k, min(k+1, n), n} {
			p.turn(k, indexes[:many]...)
			if back, e := p.decode(k, hold(l, indexes[:many]...)...); e != api.OK || !same(back, l[:k]) {
				t.Error(x, many, e)
			}
		}
		if s := p.Stat(); s != (cache.Stat{Kept: 1, Hits: 5, Misses: 1}) {
			t.Error(x, s)
		}
	}
}

// Decode makes its matrix as Turn does, if it is asked first.
func TestDecodeAheadOfTurn(t *testing.T) {
	for i, x := range [][3]int{{1, 1, 2}, {5, 3, 4}, {40, 20, 3}, {255, 60, 2}} {
		n, k := x[0], x[1]
		p, l, indexes := paired(t, n, 2), symbols(t, n, k, x[2], i), order(n, i)
		if back, e := p.decode(k, hold(l, indexes...)...); e != api.OK || !same(back, l[:k]) {
			t.Error(x, e)
		}
		p.turn(k, indexes...)
		if s := p.Stat(); s != (cache.Stat{Kept: 1, Hits: 1, Misses: 1}) {
			t.Error(x, s)
		}
	}
}

// Each weight a matrix may have is asked, the greatest one, 255, too.
func TestDecodeByAllWeights(t *testing.T) {
	var met [256]bool
	p := paired(t, 255, 64)
	for seed := range 12 {
		indexes := order(255, seed)
		m, e := p.turn(30, indexes...)
		if e != api.OK {
			t.Fatal(e)
		}
		for _, row := range m {
			for _, weight := range row {
				met[weight] = true
			}
		}
		held := make([]code.Held, 30)
		for i := range held {
			held[i] = code.Held{Index: indexes[i], Bytes: ruled(seed*100 + i).row(257)}
		}
		p.decode(30, held...)
	}
	if slices.Contains(met[:], false) {
		t.Error("a weight was not met")
	}
}

// Any rows are symbols of one source.
func TestDecodeOfAnyRows(t *testing.T) {
	p := paired(t, 7, 3)
	for a := range 256 {
		p.decode(2, code.Held{Index: a % 7, Bytes: []byte{byte(a), 0, 255}}, code.Held{Index: (a + 3) % 7, Bytes: []byte{byte(255 - a), byte(a), 1}})
	}
}

// What stands behind the first k is not asked, if it is as long.
func TestDecodeOfOthersThatDoNotAgree(t *testing.T) {
	p, l := paired(t, 9, 30), symbols(t, 9, 4, 12, 1)
	for seed := range 20 {
		held := hold(l, order(9, seed)...)
		for i := 4; i < 9; i++ {
			held[i].Bytes = some(1, 12, seed+i)[0]
		}
		for many := 4; many <= 9; many++ {
			if back, e := p.decode(4, held[:many]...); e != api.OK || !same(back, l[:4]) {
				t.Error(seed, many, e)
			}
		}
	}
}

func TestDecodeOfRowsThatAreNoneLong(t *testing.T) {
	p := paired(t, 5, 2)
	for range 2 {
		for _, held := range [][]code.Held{{{Index: 4}, {Index: 0}, {Index: 2}}, {{Index: 4, Bytes: []byte{}}, {Index: 0}, {Index: 2}, {Index: 1, Bytes: []byte{}}}} {
			back, e := p.decode(3, held...)
			if e != api.OK || len(back) != 3 || len(back[0])+len(back[1])+len(back[2]) != 0 {
				t.Error(back, e)
			}
		}
	}
}

// fault is an error, and what it is told of.
type fault struct {
	n, k    int
	indexes []int
	e       api.Errno
}

// outside are numbers that are no index of n symbols.
func outside(n int) []int {
	return []int{-1, n, n + 1, -n - 1, n - 256, n - 257, n + 256, 255, 256, 257, 512, -255, -256, 1 << 32, math.MaxInt32, math.MinInt32, math.MaxInt, math.MinInt}
}

// faults are such: code.New's of n and k, and the coder's own, those ahead that have several.
func faults() []fault {
	out := []fault{
		// of n and k, whatever the indexes are
		{4, 0, nil, api.ErrArg}, {4, 0, []int{0}, api.ErrArg}, {4, -1, []int{0, 1}, api.ErrArg}, {4, 5, []int{0, 1, 2, 3}, api.ErrArg}, {4, 5, []int{1, 1}, api.ErrArg}, {4, 5, nil, api.ErrArg}, {4, 256, []int{0}, api.ErrArg}, {4, 260, []int{0, 1, 2, 3}, api.ErrArg}, {255, 256, order(255, 1), api.ErrArg}, {255, 256, make([]int, 300), api.ErrArg}, {4, math.MinInt, []int{0}, api.ErrArg}, {4, math.MaxInt, []int{0}, api.ErrArg}, {1, 2, []int{0, 0}, api.ErrArg}, {4, 1<<32 + 1, []int{0}, api.ErrArg},
		// ErrArg of an index ahead of ErrTwice and ErrFew, wherever they stand
		{4, 2, []int{1, 1, 4}, api.ErrArg}, {4, 2, []int{4, 1, 1}, api.ErrArg}, {4, 2, []int{-1, -1}, api.ErrArg}, {4, 3, []int{0, 0, -1}, api.ErrArg}, {4, 3, []int{-1}, api.ErrArg}, {4, 2, []int{0, 1, 4}, api.ErrArg}, {4, 2, []int{0, 1, 2, 3, -1}, api.ErrArg}, {1, 1, []int{0, 1}, api.ErrArg}, {4, 1, []int{0, 0, 0, 0, 0, 5}, api.ErrArg}, {4, 2, []int{256, 257}, api.ErrArg}, {4, 2, []int{0, 256}, api.ErrArg},
		// then ErrTwice: with few, behind the first k
		{4, 3, []int{1, 1}, api.ErrTwice}, {255, 255, []int{254, 254}, api.ErrTwice}, {4, 2, []int{1, 1}, api.ErrTwice}, {4, 2, []int{0, 1, 0}, api.ErrTwice}, {4, 2, []int{0, 1, 2, 2}, api.ErrTwice}, {4, 2, []int{0, 1, 2, 3, 3}, api.ErrTwice}, {1, 1, []int{0, 0}, api.ErrTwice}, {255, 1, make([]int, 70000), api.ErrTwice}, {255, 9, append(order(255, 1), 254), api.ErrTwice},
		// then ErrFew
		{1, 1, nil, api.ErrFew}, {1, 1, []int{}, api.ErrFew}, {4, 2, nil, api.ErrFew}, {4, 2, []int{0}, api.ErrFew}, {4, 4, []int{3, 2, 1}, api.ErrFew}, {255, 255, order(255, 1)[:254], api.ErrFew}, {255, 255, nil, api.ErrFew},
	}
	for _, x := range [][2]int{{1, 1}, {3, 2}, {254, 100}, {255, 2}} {
		for _, index := range outside(x[0]) {
			if index < x[0] && index >= 0 {
				continue
			}
			whole := order(x[0], 4)
			out = append(out, fault{x[0], x[1], []int{index}, api.ErrArg}, fault{x[0], x[1], append([]int{index}, whole...), api.ErrArg}, fault{x[0], x[1], append(whole, index), api.ErrArg})
		}
	}
	return out
}

// With an error nothing is told, counted, kept or used.
func TestErrors(t *testing.T) {
	caches := map[int]*pair{}
	for i, x := range faults() {
		p := caches[x.n]
		if p == nil {
			p = paired(t, x.n, 3)
			caches[x.n] = p
			for k := 1; k <= min(4, x.n); k++ { // it is full, and something was dropped, if there is enough to ask for
				p.turn(k, order(x.n, k)...)
			}
		}
		if _, e := p.turn(x.k, x.indexes...); e != x.e {
			t.Error(i, x.n, x.k, e, x.e)
		}
		for _, wide := range []int{0, 1, 3} {
			if _, e := p.decode(x.k, bare(wide, x.indexes...)...); e != x.e {
				t.Error(i, x.n, x.k, wide, e, x.e)
			}
		}
	}
}

// Wrong indexes behind the first k are told of, though the matrix is kept, and it is not used by that.
func TestErrorsOfAKeyThatIsKept(t *testing.T) {
	for _, x := range []struct {
		more []int
		e    api.Errno
	}{
		{[]int{4}, api.ErrArg}, {[]int{-1}, api.ErrArg}, {[]int{0, 4}, api.ErrArg}, {[]int{2, 4}, api.ErrArg}, {[]int{4, 2}, api.ErrArg}, {[]int{256}, api.ErrArg}, {[]int{math.MinInt}, api.ErrArg},
		{[]int{2}, api.ErrTwice}, {[]int{3}, api.ErrTwice}, {[]int{0, 0}, api.ErrTwice}, {[]int{0, 1, 2}, api.ErrTwice}, {[]int{0, 1, 1}, api.ErrTwice},
	} {
		p := paired(t, 4, 2)
		p.turn(2, 2, 3)
		p.turn(1, 0)
		indexes := append([]int{2, 3}, x.more...)
		if _, e := p.turn(2, indexes...); e != x.e {
			t.Error(indexes, e, x.e)
		}
		if _, e := p.decode(2, bare(2, indexes...)...); e != x.e {
			t.Error(indexes, e, x.e)
		}
		p.turn(1, 1)
		if p.Has(2, 2, 3) || !p.Has(1, 0) {
			t.Error(indexes, "was used")
		}
	}
}

// Rows that are not all as long are ErrArg, wherever they stand, whatever else is so.
func TestDecodeErrArgOfLengths(t *testing.T) {
	for _, x := range []struct {
		n, k    int
		indexes []int
	}{
		{4, 2, []int{0, 1}}, {4, 2, []int{0, 1, 2}}, {4, 2, []int{3, 2, 1, 0}}, {4, 2, []int{1, 1}}, {4, 4, []int{1, 2}}, {4, 4, []int{1, 2, 1}}, {4, 1, []int{0, 3}}, {4, 1, []int{4, -1}}, {4, 0, []int{0, 1}}, {4, 5, []int{0, 1}}, {255, 30, order(255, 1)},
	} {
		p := paired(t, x.n, 2)
		p.turn(x.k, x.indexes...)
		for place := range x.indexes {
			for _, sizes := range [][2]int{{0, 1}, {1, 0}, {3, 2}, {3, 4}, {256, 0}, {2, 258}} {
				held := bare(sizes[0], x.indexes...)
				held[place].Bytes = make([]byte, sizes[1])
				if l, e := p.Decode(x.k, held...); e != api.ErrArg || l != nil {
					t.Error(x.n, x.k, len(x.indexes), place, sizes, len(l), e)
				}
			}
		}
		p.check("lengths", x.k, x.indexes)
	}
}

// P6.3

func TestNoCache(t *testing.T) {
	for name, c := range map[string]*cache.Cache{"nil": nil, "not of New": new(cache.Cache)} {
		for _, k := range []int{math.MinInt, -1, 0, 1, 2, 3, 255, 256, math.MaxInt} {
			for _, indexes := range [][]int{nil, {0}, {0, 1}, {1, 1}, {-1}, {300}, order(255, 1)} {
				if m, e := c.Turn(k, indexes...); e != api.ErrNil || m != nil {
					t.Error(name, k, m, e)
				}
				held := bare(1, indexes...)
				if l, e := c.Decode(k, held...); e != api.ErrNil || l != nil {
					t.Error(name, k, l, e)
				}
				if len(held) > 1 {
					held[1].Bytes = nil
				}
				if l, e := c.Decode(k, held...); e != api.ErrNil || l != nil {
					t.Error(name, k, l, e)
				}
				if c.Has(k, indexes...) || c.Stat() != (cache.Stat{}) {
					t.Error(name, k, "kept")
				}
			}
		}
	}
	if c, e := cache.New(0, 1); c.Stat() != (cache.Stat{}) || c.Has(1, 0) || e != api.ErrArg {
		t.Error(e)
	}
}

// R3: arguments stay as they were, and answers share no memory with them, with one another, or with what is kept.

// spoil writes over all memory that came with a list, row by row, and asks each time whether others went with it.
func spoil(t *testing.T, l [][]byte, others ...[][]byte) {
	t.Helper()
	for i, row := range l {
		next, were := slices.Clone(l), make([][][]byte, len(others))
		next[i] = nil
		was := clone(next)
		for j, other := range others {
			were[j] = clone(other)
		}
		row = row[:cap(row)]
		for b := range row {
			row[b] ^= 0xFF
		}
		if !same(next, was) {
			t.Error("shared with one another:", i)
		}
		for j, other := range others {
			if !same(other, were[j]) {
				t.Error("shared with another list:", i, j)
			}
		}
	}
	clear(l[:cap(l)])
}

func TestAnswersAreNewMemory(t *testing.T) {
	for i, x := range [][3]int{{1, 1, 3}, {4, 2, 5}, {4, 4, 5}, {40, 20, 7}, {255, 3, 2}} {
		n, k := x[0], x[1]
		p, l, indexes := paired(t, n, 1), symbols(t, n, k, x[2], i), order(n, i)
		held := hold(l, indexes...)
		for range 3 { // a miss is handed out first, and hits then, each after what was handed out is spoilt
			m, _ := p.turn(k, indexes...)
			again, _ := p.turn(k, indexes...)
			source, _ := p.decode(k, held...)
			back, _ := p.decode(k, held...)
			spoil(t, m, again, source, back, l)
			spoil(t, again, source, back, l)
			spoil(t, source, back, l)
			spoil(t, back, l)
		}
		p = paired(t, n, 1)
		source, _ := p.decode(k, held...)
		spoil(t, source, l)
		p.turn(k, indexes...)
	}
}

func TestArgumentsStayAsTheyWere(t *testing.T) {
	for i, x := range [][3]int{{1, 1, 3}, {4, 2, 5}, {4, 4, 5}, {40, 20, 7}} {
		n, k := x[0], x[1]
		p, l := paired(t, n, 2), symbols(t, n, k, x[2], i)
		was := clone(l)
		for _, indexes := range [][]int{order(n, i), order(n, i)[:k-1], append(order(n, i), 0), append(order(n, i), -1)} {
			told := append(slices.Clone(indexes), 77)
			held := append(bare(x[2], indexes...), code.Held{Index: 77})
			for j, index := range indexes {
				if index >= 0 {
					held[j].Bytes = l[index]
				}
			}
			were := slices.Clone(held)
			for range 2 {
				p.turn(k, told[:len(indexes)]...)
				p.decode(k, held[:len(indexes)]...)
				p.decode(k, held...)
				p.Has(k, told...)
			}
			if !slices.Equal(told, append(slices.Clone(indexes), 77)) || !same(l, was) {
				t.Error(x, indexes, told)
			}
			if !slices.EqualFunc(held, were, func(a, b code.Held) bool { return a.Index == b.Index && bytes.Equal(a.Bytes, b.Bytes) }) {
				t.Error(x, indexes, held)
			}
		}
	}
}

// What is written over an argument afterwards is not seen in what is kept.
func TestArgumentsAreNotKept(t *testing.T) {
	p, l := paired(t, 9, 4), symbols(t, 9, 3, 6, 3)
	for seed := range 4 {
		indexes := order(9, seed)
		asked := slices.Clone(indexes)
		held := hold(clone(l), indexes...)
		p.turn(3, asked...)
		p.decode(3, held...)
		for i := range asked {
			asked[i] = 8 - i
			held[i].Index = i
			clear(held[i].Bytes)
		}
		p.turn(3, indexes...)
		if back, e := p.decode(3, hold(l, indexes...)...); e != api.OK || !same(back, l[:3]) {
			t.Error(seed, e)
		}
	}
}
