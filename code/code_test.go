package code_test

import (
	"bytes"
	"math"
	"reflect"
	"slices"
	"testing"

	"hourglass/api"
	"hourglass/code"
	"hourglass/poly"
	"hourglass/rows"
)

// What is asked of symbols is held against these, which know no package but the words of the chapters.

// times is the product of two bytes.
func times(a, b byte) byte {
	p := byte(0)
	for ; b > 0; b >>= 1 {
		if b&1 == 1 {
			p ^= a
		}
		over := a >> 7
		a = a<<1 ^ over*0x1D
	}
	return p
}

// value is a polynomial's: the sum of each coefficient by the power of x to its place.
func value(p []byte, x byte) byte {
	sum, power := byte(0), byte(1)
	for _, c := range p {
		sum ^= times(c, power)
		power = times(power, x)
	}
	return sum
}

// some is so many rows of so many bytes, by a rule.
func some(high, wide, seed int) [][]byte {
	out, state := make([][]byte, high), uint32(seed)*2654435761+12345
	for r := range out {
		out[r] = make([]byte, wide)
		for i := range out[r] {
			state = state*1664525 + 1013904223
			out[r][i] = byte(state >> 24)
		}
	}
	return out
}

// symbols are n rows of values at the bytes 0 to n - 1: at each place of a polynomial of k coefficients. (The first k of them are the source.)
func symbols(n, k, wide, seed int) [][]byte {
	polynomials := some(wide, k, seed)
	out := make([][]byte, n)
	for x := range out {
		out[x] = make([]byte, wide)
		for i, p := range polynomials {
			out[x][i] = value(p, byte(x))
		}
	}
	return out
}

// order is the numbers from 0 to n - 1, in an order by a rule.
func order(n, seed int) []int {
	out := make([]int, n)
	for i := range out {
		out[i] = i
	}
	for i, x := range some(1, n, seed)[0] {
		j := int(x) % n
		out[i], out[j] = out[j], out[i]
	}
	return out
}

// arrangements calls with any k unlike ones of the numbers from 0 to n - 1, in any order.
func arrangements(n, k int, call func(indexes []int)) {
	var indexes []int
	var more func()
	more = func() {
		if len(indexes) == k {
			call(slices.Clone(indexes))
			return
		}
		for i := range n {
			if !slices.Contains(indexes, i) {
				indexes = append(indexes, i)
				more()
				indexes = indexes[:len(indexes)-1]
			}
		}
	}
	more()
}

// product is the matrix by rows.
func product(matrix, list [][]byte) [][]byte {
	out := make([][]byte, len(matrix))
	for r, row := range matrix {
		out[r] = make([]byte, len(list[0]))
		for i, weight := range row {
			for c, b := range list[i] {
				out[r][c] ^= times(weight, b)
			}
		}
	}
	return out
}

func same(a, b [][]byte) bool { return slices.EqualFunc(a, b, bytes.Equal) }

func clone(l [][]byte) [][]byte {
	out := make([][]byte, len(l))
	for i, row := range l {
		out[i] = bytes.Clone(row)
	}
	return out
}

// hold is the rows at some places, each with its index.
func hold(l [][]byte, indexes ...int) []code.Held {
	out := make([]code.Held, len(indexes))
	for i, index := range indexes {
		out[i] = code.Held{Index: index, Bytes: l[index]}
	}
	return out
}

// at are the rows at some places.
func at(l [][]byte, indexes ...int) [][]byte {
	out := make([][]byte, len(indexes))
	for i, index := range indexes {
		out[i] = l[index]
	}
	return out
}

func made(t *testing.T, n, k int) *code.Coder {
	t.Helper()
	c, e := code.New(n, k)
	if e != api.OK || c == nil {
		t.Fatal(n, k, c, e)
	}
	return c
}

// kinds are n, k, and how long rows are.
func kinds() [][3]int {
	return [][3]int{
		{1, 1, 1}, {1, 1, 40}, {2, 1, 3}, {2, 2, 3}, {3, 2, 0}, {3, 2, 1}, {4, 2, 2}, {4, 3, 7}, {5, 5, 9}, {7, 4, 33}, {9, 1, 12}, {12, 11, 5}, {30, 10, 256}, {30, 29, 257}, {31, 31, 20}, {64, 32, 17}, {6, 3, 1500}, {5, 2, 70000},
		{254, 1, 4}, {254, 254, 2}, {255, 1, 3}, {255, 2, 4}, {255, 128, 3}, {255, 254, 2}, {255, 255, 2}, {255, 100, 0},
	}
}

func TestExamples(t *testing.T) {
	c := made(t, 4, 2)
	source := [][]byte{{5}, {4}}
	l, e := c.Encode(source)
	if e != api.OK || !same(l, [][]byte{{5}, {4}, {7}, {6}}) {
		t.Fatal(l, e)
	}
	arrangements(4, 2, func(indexes []int) {
		if back, e := c.Decode(hold(l, indexes...)...); e != api.OK || !same(back, source) {
			t.Error(indexes, back, e)
		}
	})
	if m, e := c.Turn(2, 3); e != api.OK || !same(m, [][]byte{{3, 2}, {2, 3}}) {
		t.Error(m, e)
	}
}

// P5.1

func TestNewOfSizes(t *testing.T) {
	sizes := []int{math.MinInt, math.MinInt32, -256, -255, -2, -1, 0, 1, 2, 3, 127, 128, 254, 255, 256, 257, 258, 511, 512, 65536, 1<<32 + 1, math.MaxInt32, math.MaxInt}
	for _, n := range sizes {
		for _, k := range sizes {
			fault := api.ErrArg
			if 1 <= k && k <= n && n <= 255 {
				fault = api.OK
			}
			if c, e := code.New(n, k); e != fault || (c != nil) != (e == api.OK) {
				t.Error(n, k, c != nil, e)
			}
		}
	}
	for n := range 258 {
		for _, k := range []int{0, 1, n - 1, n, n + 1} {
			c, e := code.New(n, k)
			if right := k >= 1 && k <= n && n <= 255; (e == api.OK) != right || (c != nil) != right {
				t.Error(n, k, c != nil, e)
			}
		}
	}
}

func TestEncode(t *testing.T) {
	for i, x := range kinds() {
		n, k, wide := x[0], x[1], x[2]
		want := symbols(n, k, wide, i)
		if l, e := made(t, n, k).Encode(want[:k]); e != api.OK || !same(l, want) {
			t.Error(x, len(l), e)
		}
	}
}

func TestEncodeOfAllSmallSizes(t *testing.T) {
	for n := 1; n <= 24; n++ {
		for k := 1; k <= n; k++ {
			want := symbols(n, k, 5, n*k)
			if l, e := made(t, n, k).Encode(want[:k]); e != api.OK || !same(l, want) {
				t.Error(n, k, l, e)
			}
		}
	}
}

// Sources by any rule, not of polynomials that were chosen: through their bytes there is one.
func TestEncodeOfAnySource(t *testing.T) {
	for i, x := range [][3]int{{1, 1, 2}, {3, 2, 9}, {9, 5, 40}, {40, 30, 12}, {255, 60, 3}, {255, 255, 2}} {
		n, k, wide := x[0], x[1], x[2]
		source := some(k, wide, i)
		if i%2 == 1 {
			clear(source[0])
		}
		l, e := made(t, n, k).Encode(source)
		if e != api.OK || len(l) != n || !same(l[:k], source) {
			t.Error(x, len(l), e)
			continue
		}
		for c := range wide {
			xs, ys := make([]byte, k), make([]byte, k)
			for r, row := range source {
				xs[r], ys[r] = byte(r), row[c]
			}
			p, e := poly.Through(xs, ys)
			if e != api.OK {
				t.Fatal(e)
			}
			for r, row := range l {
				if row[c] != value(p, byte(r)) {
					t.Error(x, c, r)
				}
			}
		}
	}
}

func TestEncodeOfOneRowIsThatRow(t *testing.T) {
	for _, n := range []int{1, 2, 100, 254, 255} {
		for _, row := range [][]byte{nil, {}, {0}, {9}, {1, 2, 3}, some(1, 300, 4)[0]} {
			l, e := made(t, n, 1).Encode([][]byte{row})
			if e != api.OK || len(l) != n {
				t.Error(n, len(l), e)
			}
			for _, s := range l {
				if !bytes.Equal(s, row) {
					t.Error(n, row, s)
				}
			}
		}
	}
}

func TestEncodeOfRowsThatAreNoneLong(t *testing.T) {
	c := made(t, 5, 3)
	for _, source := range [][][]byte{{nil, nil, nil}, {{}, {}, {}}, {nil, {}, nil}, {{}, nil, {}}} {
		l, e := c.Encode(source)
		if e != api.OK || len(l) != 5 || slices.ContainsFunc(l, func(row []byte) bool { return len(row) != 0 }) {
			t.Error(l, e)
		}
		for index := range 5 {
			if s, e := c.Symbol(source, index); e != api.OK || len(s) != 0 {
				t.Error(index, s, e)
			}
		}
	}
}

// wrong are rows that are no source of k.
func wrong(k int) [][][]byte {
	out := [][][]byte{some(k+1, 3, 1), some(k+1, 0, 1), some(2*k, 1, 1), some(256, 2, 1), make([][]byte, 70000), make([][]byte, k+1), some(k-1, 3, 1), make([][]byte, k-1)}
	if k > 1 {
		out = append(out, nil, [][]byte{}, some(1, 4, 1))
		for _, place := range []int{0, 1, k / 2, k - 1} {
			for _, size := range []int{0, 1, 2, 4, 5, 300} {
				source := some(k, 3, 2)
				source[place] = make([]byte, size)
				none := make([][]byte, k)
				none[place] = []byte{0}
				out = append(out, source, none)
			}
		}
	}
	return out
}

func TestEncodeAndSymbolErrArgOfSources(t *testing.T) {
	for _, x := range [][2]int{{1, 1}, {4, 1}, {4, 2}, {4, 3}, {4, 4}, {20, 7}, {255, 40}, {254, 254}} {
		c := made(t, x[0], x[1])
		for i, source := range wrong(x[1]) {
			if l, e := c.Encode(source); e != api.ErrArg || len(l) != 0 {
				t.Error(x, i, len(l), e)
			}
			for _, index := range []int{-1, 0, x[1] - 1, x[0] - 1, x[0]} {
				if s, e := c.Symbol(source, index); e != api.ErrArg || len(s) != 0 {
					t.Error(x, i, index, s, e)
				}
			}
		}
	}
}

func TestSymbol(t *testing.T) {
	for i, x := range kinds() {
		n, k, wide := x[0], x[1], min(x[2], 300)
		want, c := symbols(n, k, wide, i), made(t, n, k)
		for index, row := range want {
			if s, e := c.Symbol(want[:k], index); e != api.OK || !bytes.Equal(s, row) {
				t.Error(x, index, s, e)
			}
		}
		for _, index := range outside(n) {
			if s, e := c.Symbol(want[:k], index); e != api.ErrArg || len(s) != 0 {
				t.Error(x, index, s, e)
			}
		}
	}
}

// outside are numbers that are no index of n symbols.
func outside(n int) []int {
	return []int{-1, n, n + 1, -2, -n, n - 256, n - 257, n + 255, n + 256, 256, 257, 512, -255, -256, 1 << 32, math.MaxInt32, math.MinInt32, math.MaxInt, math.MinInt}
}

// P5.2

// turned asks whether a matrix is that of k symbols: its product with them is the source, whatever the source is.
func turned(t *testing.T, c *code.Coder, n, k int, indexes []int, m [][]byte) bool {
	t.Helper()
	if len(m) != k || slices.ContainsFunc(m, func(row []byte) bool { return len(row) != k }) {
		return false
	}
	unit, e := rows.Unit(k)
	if e != api.OK {
		t.Fatal(e)
	}
	all, e := c.Encode(unit) // by each source of the unit, and so by any sums of such
	if e != api.OK || len(all) != n {
		t.Fatal(len(all), e)
	}
	want := symbols(n, k, 9, n)
	return same(product(m, at(all, indexes[:k]...)), unit) && same(product(m, at(want, indexes[:k]...)), want[:k])
}

func TestTurnOfAnyIndexes(t *testing.T) {
	for n := 1; n <= 5; n++ {
		for k := 1; k <= n; k++ {
			c := made(t, n, k)
			for many := k; many <= n; many++ {
				arrangements(n, many, func(indexes []int) {
					if m, e := c.Turn(indexes...); e != api.OK || !turned(t, c, n, k, indexes, m) {
						t.Error(n, k, indexes, m, e)
					}
				})
			}
		}
	}
}

func TestTurnOfManyIndexes(t *testing.T) {
	for i, x := range [][2]int{{20, 7}, {40, 39}, {40, 40}, {254, 3}, {255, 1}, {255, 20}, {255, 90}, {255, 128}, {120, 120}} {
		n, k := x[0], x[1]
		c, indexes := made(t, n, k), order(n, i)
		for _, many := range []int{k, min(k+1, n), n} {
			if m, e := c.Turn(indexes[:many]...); e != api.OK || !turned(t, c, n, k, indexes, m) {
				t.Error(x, many, e)
			}
		}
		last := make([]int, k)
		for j := range last {
			last[j] = n - 1 - j
		}
		if m, e := c.Turn(last...); e != api.OK || !turned(t, c, n, k, last, m) {
			t.Error(x, "the last ones", e)
		}
	}
}

func TestTurnOfTheGreatest(t *testing.T) {
	c, source := made(t, 255, 255), some(255, 3, 1)
	indexes := order(255, 8)
	m, e := c.Turn(indexes...)
	if e != api.OK || len(m) != 255 || !same(product(m, at(source, indexes...)), source) {
		t.Error(len(m), e)
	}
}

func TestTurnOfTheSourceIsTheUnit(t *testing.T) {
	for _, x := range [][2]int{{1, 1}, {4, 2}, {4, 4}, {255, 30}, {255, 255}} {
		indexes := make([]int, x[0])
		for i := range indexes {
			indexes[i] = i
		}
		unit, _ := rows.Unit(x[1])
		if m, e := made(t, x[0], x[1]).Turn(indexes...); e != api.OK || !same(m, unit) {
			t.Error(x, m, e)
		}
	}
}

// The first k alone tell the matrix.
func TestTurnOfMoreThanEnough(t *testing.T) {
	c, indexes := made(t, 60, 13), order(60, 3)
	want, e := c.Turn(indexes[:13]...)
	if e != api.OK {
		t.Fatal(e)
	}
	for many := 13; many <= 60; many++ {
		if m, e := c.Turn(indexes[:many]...); e != api.OK || !same(m, want) {
			t.Error(many, e)
		}
	}
}

// fault is an error, and indexes of which it is told.
type fault struct {
	n, k    int
	indexes []int
	e       api.Errno
}

// faults are such, those ahead that have several.
func faults() []fault {
	out := []fault{
		// ErrArg is named first: with a twice told one ahead of it and behind it, with few, with all three, behind the first k
		{4, 2, []int{1, 1, 4}, api.ErrArg}, {4, 2, []int{4, 1, 1}, api.ErrArg}, {4, 2, []int{1, 4, 1}, api.ErrArg}, {4, 2, []int{-1, -1}, api.ErrArg}, {4, 2, []int{4, 4, 4}, api.ErrArg}, {4, 3, []int{0, 0, -1}, api.ErrArg}, {4, 3, []int{-1}, api.ErrArg}, {4, 4, []int{2, 2, 9}, api.ErrArg}, {4, 2, []int{0, 1, 4}, api.ErrArg}, {4, 2, []int{0, 1, 2, 3, -1}, api.ErrArg}, {4, 2, []int{0, 1, 2, 3, 4}, api.ErrArg}, {1, 1, []int{0, 1}, api.ErrArg}, {4, 1, []int{0, 0, 0, 0, 0, 5}, api.ErrArg},
		// then ErrTwice: with few, behind the first k
		{4, 3, []int{1, 1}, api.ErrTwice}, {255, 255, []int{254, 254}, api.ErrTwice}, {4, 4, []int{0, 1, 0}, api.ErrTwice}, {4, 2, []int{1, 1}, api.ErrTwice}, {4, 2, []int{0, 1, 0}, api.ErrTwice}, {4, 2, []int{0, 1, 2, 2}, api.ErrTwice}, {4, 2, []int{0, 1, 2, 3, 3}, api.ErrTwice}, {4, 1, []int{0, 0}, api.ErrTwice}, {1, 1, []int{0, 0}, api.ErrTwice}, {4, 2, []int{3, 2, 1, 0, 3}, api.ErrTwice}, {255, 1, make([]int, 70000), api.ErrTwice}, {255, 9, append(order(255, 1), 254), api.ErrTwice}, {255, 9, append(order(255, 2), order(255, 3)...), api.ErrTwice},
		// then ErrFew
		{1, 1, nil, api.ErrFew}, {1, 1, []int{}, api.ErrFew}, {4, 2, nil, api.ErrFew}, {4, 2, []int{0}, api.ErrFew}, {4, 2, []int{3}, api.ErrFew}, {4, 4, []int{3, 2, 1}, api.ErrFew}, {255, 255, order(255, 1)[:254], api.ErrFew}, {255, 200, order(255, 1)[:199], api.ErrFew}, {255, 255, nil, api.ErrFew},
	}
	for _, x := range [][2]int{{1, 1}, {3, 2}, {255, 2}, {254, 100}} {
		for _, index := range outside(x[0]) {
			whole := order(x[0], 4)
			out = append(out, fault{x[0], x[1], []int{index}, api.ErrArg}, fault{x[0], x[1], append([]int{index}, whole...), api.ErrArg}, fault{x[0], x[1], append(whole, index), api.ErrArg})
		}
	}
	return out
}

func TestTurnErrors(t *testing.T) {
	for i, x := range faults() {
		if m, e := made(t, x.n, x.k).Turn(x.indexes...); e != x.e || len(m) != 0 {
			t.Error(i, len(m), e, x.e)
		}
	}
}

// P5.3

func TestDecode(t *testing.T) {
	for i, x := range kinds() {
		n, k, wide := x[0], x[1], x[2]
		l, c := symbols(n, k, wide, i), made(t, n, k)
		for seed := range 3 {
			indexes := order(n, seed+i)
			for _, many := range []int{k, min(k+1, n), n} {
				if back, e := c.Decode(hold(l, indexes[:many]...)...); e != api.OK || !same(back, l[:k]) {
					t.Error(x, seed, many, len(back), e)
				}
			}
		}
	}
}

func TestDecodeOfTheSourceItself(t *testing.T) {
	for _, x := range [][2]int{{1, 1}, {9, 4}, {9, 9}, {255, 30}} {
		source, c := some(x[1], 20, 3), made(t, x[0], x[1])
		indexes := order(x[1], 5)
		if back, e := c.Decode(hold(source, indexes...)...); e != api.OK || !same(back, source) {
			t.Error(x, back, e)
		}
	}
}

// What stands behind the first k is not asked, if it is as long.
func TestDecodeOfOthersThatDoNotAgree(t *testing.T) {
	l, c := symbols(9, 4, 12, 1), made(t, 9, 4)
	for seed := range 20 {
		held := hold(l, order(9, seed)...)
		for i := 4; i < 9; i++ {
			held[i].Bytes = some(1, 12, seed+i)[0]
		}
		for many := 4; many <= 9; many++ {
			if back, e := c.Decode(held[:many]...); e != api.OK || !same(back, l[:4]) {
				t.Error(seed, many, back, e)
			}
		}
	}
}

func TestDecodeOfRowsThatAreNoneLong(t *testing.T) {
	c := made(t, 5, 3)
	for _, held := range [][]code.Held{{{Index: 4}, {Index: 0}, {Index: 2}}, {{Index: 4, Bytes: []byte{}}, {Index: 0}, {Index: 2}, {Index: 1, Bytes: []byte{}}}} {
		back, e := c.Decode(held...)
		if e != api.OK || len(back) != 3 || len(back[0])+len(back[1])+len(back[2]) != 0 {
			t.Error(back, e)
		}
	}
}

func TestDecodeErrorsOfIndexes(t *testing.T) {
	for i, x := range faults() {
		for _, wide := range []int{0, 1, 3} {
			held := make([]code.Held, len(x.indexes))
			for j, index := range x.indexes {
				held[j] = code.Held{Index: index, Bytes: make([]byte, wide)}
			}
			if back, e := made(t, x.n, x.k).Decode(held...); e != x.e || len(back) != 0 {
				t.Error(i, wide, len(back), e, x.e)
			}
		}
	}
}

// Rows that are not all as long are ErrArg, wherever they stand, whatever else is so.
func TestDecodeErrArgOfLengths(t *testing.T) {
	for _, x := range []struct {
		n, k    int
		indexes []int
	}{
		{4, 2, []int{0, 1}}, {4, 2, []int{0, 1, 2}}, {4, 2, []int{3, 2, 1, 0}}, {4, 2, []int{1, 1}}, {4, 2, []int{1, 1, 1, 1}}, {4, 4, []int{1, 2}}, {4, 4, []int{1, 2, 1}}, {4, 1, []int{0, 3}}, {4, 1, []int{4, -1}}, {255, 30, order(255, 1)}, {255, 255, order(255, 2)},
	} {
		c := made(t, x.n, x.k)
		for place := range x.indexes {
			for _, sizes := range [][2]int{{0, 1}, {1, 0}, {3, 2}, {3, 4}, {3, 0}, {256, 0}, {2, 258}} {
				held := make([]code.Held, len(x.indexes))
				for i, index := range x.indexes {
					held[i] = code.Held{Index: index, Bytes: make([]byte, sizes[0])}
				}
				held[place].Bytes = make([]byte, sizes[1])
				if back, e := c.Decode(held...); e != api.ErrArg || len(back) != 0 {
					t.Error(x.n, x.k, len(x.indexes), place, sizes, len(back), e)
				}
			}
		}
	}
}

// P5.4

func TestNoCoder(t *testing.T) {
	l := symbols(4, 2, 3, 1)
	for name, c := range map[string]*code.Coder{"nil": nil, "not of New": new(code.Coder)} {
		for _, source := range [][][]byte{l[:2], nil, l, {{1}, {}}, {{}}} {
			if s, e := c.Encode(source); e != api.ErrNil || len(s) != 0 {
				t.Error(name, s, e)
			}
			for _, index := range []int{0, 1, 3, 4, -1, math.MaxInt} {
				if s, e := c.Symbol(source, index); e != api.ErrNil || len(s) != 0 {
					t.Error(name, index, s, e)
				}
			}
		}
		for _, indexes := range [][]int{{0, 1}, nil, {0}, {1, 1}, {-1}, {300}} {
			held := make([]code.Held, len(indexes))
			for i, index := range indexes {
				held[i] = code.Held{Index: index, Bytes: make([]byte, i)}
			}
			if s, e := c.Decode(held...); e != api.ErrNil || len(s) != 0 {
				t.Error(name, indexes, s, e)
			}
			if m, e := c.Turn(indexes...); e != api.ErrNil || len(m) != 0 {
				t.Error(name, indexes, m, e)
			}
		}
	}
}

// A coder has no calls but those of the chapter: others would panic of no coder.
func TestCallsOfACoder(t *testing.T) {
	var names []string
	for method := range reflect.TypeFor[*code.Coder]().Methods() {
		names = append(names, method.Name)
	}
	slices.Sort(names)
	if !slices.Equal(names, []string{"Decode", "Encode", "Symbol", "Turn"}) {
		t.Error(names)
	}
}

// P5.5

func TestAnySymbolsDecodeToTheirSource(t *testing.T) {
	for n := 1; n <= 6; n++ {
		for k := 1; k <= n; k++ {
			c, source := made(t, n, k), some(k, 4, n*k)
			l, e := c.Encode(source)
			if e != api.OK {
				t.Fatal(n, k, e)
			}
			arrangements(n, k, func(indexes []int) {
				if back, e := c.Decode(hold(l, indexes...)...); e != api.OK || !same(back, source) {
					t.Error(n, k, indexes, back, e)
				}
			})
		}
	}
}

func TestAnyRowsAreSymbolsOfOneSource(t *testing.T) {
	for i, x := range kinds() {
		n, k, wide := x[0], x[1], min(x[2], 400)
		c, told := made(t, n, k), some(k, wide, i+7)
		for seed := range 3 {
			indexes := order(n, seed)[:k]
			held := make([]code.Held, k)
			for j, index := range indexes {
				held[j] = code.Held{Index: index, Bytes: told[j]}
			}
			source, e := c.Decode(held...)
			if e != api.OK || len(source) != k {
				t.Fatal(x, len(source), e)
			}
			if l, e := c.Encode(source); e != api.OK || !same(at(l, indexes...), told) {
				t.Error(x, seed, e)
			}
		}
	}
}

func TestProductOfTheMatrixIsWhatIsDecoded(t *testing.T) {
	for i, x := range [][2]int{{3, 2}, {8, 5}, {90, 40}, {255, 64}} {
		l, c := symbols(x[0], x[1], 200, i), made(t, x[0], x[1])
		indexes := order(x[0], i)
		m, e := c.Turn(indexes...)
		if e != api.OK {
			t.Fatal(x, e)
		}
		want, e := rows.Mul(m, at(l, indexes[:x[1]]...))
		if back, f := c.Decode(hold(l, indexes...)...); e != api.OK || f != api.OK || !same(back, want) || !same(back, l[:x[1]]) {
			t.Error(x, e, f)
		}
	}
}

// R3: arguments stay as they were, and answers share no memory with them nor with one another.

// spoil writes over all memory that came with a list, row by row, and asks each time whether others went with it.
func spoil(t *testing.T, l [][]byte, others ...[][]byte) {
	t.Helper()
	for i, row := range l {
		next, were := slices.Clone(l), make([][][]byte, len(others))
		next[i] = nil
		was := clone(next)
		for j, other := range others {
			were[j] = clone(other)
		}
		row = row[:cap(row)]
		for b := range row {
			row[b] ^= 0xFF
		}
		if !same(next, was) {
			t.Error("shared with one another:", i)
		}
		for j, other := range others {
			if !same(other, were[j]) {
				t.Error("shared with another list:", i, j)
			}
		}
	}
	clear(l[:cap(l)])
}

// joined is rows that lie one behind the other in one memory, with bytes ahead of them and behind them.
func joined(l [][]byte) (back []byte, cut [][]byte) {
	back = []byte{91, 92}
	for _, row := range l {
		back = append(back, row...)
	}
	back = append(back, 93, 94, 95)
	place := 2
	for _, row := range l {
		cut = append(cut, back[place:place+len(row)])
		place += len(row)
	}
	return back, cut
}

func TestSourceStaysAsItWas(t *testing.T) {
	for i, x := range [][3]int{{1, 1, 3}, {4, 2, 5}, {4, 4, 5}, {40, 20, 7}, {255, 3, 2}} {
		n, k := x[0], x[1]
		for _, high := range []int{k, k - 1, k + 1} {
			c := made(t, n, k)
			back, source := joined(some(high, x[2], i))
			was, list := bytes.Clone(back), slices.Clone(source)
			l, _ := c.Encode(source)
			again, _ := c.Encode(source)
			one, _ := c.Symbol(source, 0)
			last, _ := c.Symbol(source, n-1)
			c.Symbol(source, n)
			spoil(t, l, again, [][]byte{one, last}, source)
			spoil(t, [][]byte{one, last}, again, source)
			spoil(t, again, source)
			if !bytes.Equal(back, was) || !same(source, list) {
				t.Error(x, high, back, was)
			}
		}
	}
}

func TestHeldStayAsTheyWere(t *testing.T) {
	for i, x := range [][3]int{{1, 1, 3}, {4, 2, 5}, {4, 4, 5}, {40, 20, 7}, {255, 3, 2}} {
		n, k := x[0], x[1]
		c := made(t, n, k)
		back, l := joined(symbols(n, k, x[2], i))
		was := bytes.Clone(back)
		for _, indexes := range [][]int{order(n, i), order(n, i)[:k-1], append(order(n, i), 0), order(k, i)} {
			held := append(hold(l, indexes...), code.Held{Index: 77})
			were := slices.Clone(held)
			source, _ := c.Decode(held[:len(indexes)]...)
			again, _ := c.Decode(held[:len(indexes)]...)
			spoil(t, source, again, l)
			spoil(t, again, l)
			c.Decode(held...)
			if !bytes.Equal(back, was) || !slices.EqualFunc(held, were, func(a, b code.Held) bool { return a.Index == b.Index && bytes.Equal(a.Bytes, b.Bytes) }) {
				t.Error(x, indexes, held)
			}
			told := append(slices.Clone(indexes), 77)
			m, _ := c.Turn(told[:len(indexes)]...)
			other, _ := c.Turn(told[:len(indexes)]...)
			spoil(t, m, other)
			spoil(t, other)
			if !slices.Equal(told, append(slices.Clone(indexes), 77)) {
				t.Error(x, indexes, told)
			}
		}
	}
}

// What was written over, and what was told ahead, does not come again.
func TestNothingIsKept(t *testing.T) {
	c, l := made(t, 9, 4), symbols(9, 4, 6, 3)
	for seed := range 30 {
		indexes := order(9, seed)
		source := clone(l[:4])
		out, e := c.Encode(source)
		if e != api.OK || !same(out, l) {
			t.Fatal(seed, out, e)
		}
		spoil(t, source, out)
		m, e := c.Turn(indexes...)
		if e != api.OK || !turned(t, c, 9, 4, indexes, m) {
			t.Fatal(seed, m, e)
		}
		held := hold(out, indexes...)
		back, e := c.Decode(held...)
		if e != api.OK || !same(back, l[:4]) {
			t.Fatal(seed, back, e)
		}
		spoil(t, out, back, m)
		spoil(t, m, back)
		spoil(t, back)
		c.Turn(indexes[:3]...)
		c.Encode(l[:3])
		c.Decode(held[:2]...)
	}
}

// One row may stand in a source more than once, and in what is held.
func TestRowsThatAreOne(t *testing.T) {
	row := []byte{5, 0, 255, 7}
	was := bytes.Clone(row)
	c := made(t, 5, 3)
	l, e := c.Encode([][]byte{row, row, row})
	if e != api.OK || len(l) != 5 {
		t.Fatal(l, e)
	}
	for i, s := range l {
		if !bytes.Equal(s, was) { // of bytes that are one the polynomial is that byte
			t.Error(i, s)
		}
	}
	back, e := c.Decode(code.Held{Index: 4, Bytes: row}, code.Held{Index: 1, Bytes: row}, code.Held{Index: 3, Bytes: row})
	if e != api.OK || !same(back, [][]byte{was, was, was}) || !bytes.Equal(row, was) {
		t.Error(back, e, row)
	}
	spoil(t, back, [][]byte{row}, l)
}

// Coders know nothing of one another.
func TestCodersAreUnlike(t *testing.T) {
	a, b, again := made(t, 6, 2), made(t, 6, 3), made(t, 6, 2)
	l := symbols(6, 2, 5, 1)
	if m, e := b.Turn(5, 4, 3); e != api.OK || len(m) != 3 {
		t.Error(m, e)
	}
	for i, c := range []*code.Coder{a, again, a} {
		if out, e := c.Encode(l[:2]); e != api.OK || !same(out, l) {
			t.Error(i, out, e)
		}
		if out, e := b.Encode(l[:2]); e != api.ErrArg || len(out) != 0 {
			t.Error(i, out, e)
		}
		if back, e := c.Decode(hold(l, 5, 3)...); e != api.OK || !same(back, l[:2]) {
			t.Error(i, back, e)
		}
	}
}

// R4: one thing is answered alike each time.
func TestAlikeEachTime(t *testing.T) {
	for seed := range 12 {
		n, k := 20+seed*20, 1+seed*15
		source, indexes := some(k, 3, seed), order(n, seed)
		first, e1 := made(t, n, k).Encode(source)
		again, e2 := made(t, n, k).Encode(clone(source))
		if e1 != api.OK || e2 != api.OK || !same(first, again) {
			t.Error(seed, e1, e2)
		}
		m, e1 := made(t, n, k).Turn(indexes...)
		other, e2 := made(t, n, k).Turn(indexes...)
		if e1 != api.OK || e2 != api.OK || !same(m, other) {
			t.Error(seed, e1, e2)
		}
	}
}
