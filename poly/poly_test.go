package poly_test

import (
	"bytes"
	"testing"

	"hourglass/api"
	"hourglass/poly"
)

// What is asked of polynomials is held against these, which know no package but the words of the chapters.

// times is the product of two bytes.
func times(a, b byte) byte {
	p := byte(0)
	for ; b > 0; b >>= 1 {
		if b&1 == 1 {
			p ^= a
		}
		over := a&0x80 != 0
		a <<= 1
		if over {
			a ^= 0x1D
		}
	}
	return p
}

// lean is p without noughts at its end.
func lean(p []byte) []byte {
	n := len(p)
	for n > 0 && p[n-1] == 0 {
		n--
	}
	return append([]byte{}, p[:n]...)
}

// value is the sum of each coefficient by the power of x to its place.
func value(p []byte, x byte) byte {
	sum, power := byte(0), byte(1)
	for _, c := range p {
		sum ^= times(c, power)
		power = times(power, x)
	}
	return sum
}

func sum(p, q []byte) []byte {
	out := make([]byte, max(len(p), len(q)))
	for i := range out {
		if i < len(p) {
			out[i] ^= p[i]
		}
		if i < len(q) {
			out[i] ^= q[i]
		}
	}
	return lean(out)
}

func product(p, q []byte) []byte {
	out := make([]byte, len(p)+len(q))
	for i := range p {
		for j := range q {
			out[i+j] ^= times(p[i], q[j])
		}
	}
	return lean(out)
}

// some is a row of so many bytes, by a rule, the last of which is not 0.
func some(size, seed int) []byte {
	out, state := make([]byte, size), uint32(seed)*2654435761+12345
	for i := range out {
		state = state*1664525 + 1013904223
		out[i] = byte(state >> 24)
	}
	if size > 0 && out[size-1] == 0 {
		out[size-1] = 1
	}
	return out
}

// padded is p, and so many noughts.
func padded(p []byte, noughts int) []byte {
	return append(append([]byte{}, p...), make([]byte, noughts)...)
}

// places is 0, 1, and so on.
func places(n int) []byte {
	out := make([]byte, n)
	for i := range out {
		out[i] = byte(i)
	}
	return out
}

// isLean asks for the row as it is, with no nought at its end.
func isLean(p []byte) bool { return len(p) == 0 || p[len(p)-1] != 0 }

// spoil writes over all memory that came with a row.
func spoil(row []byte) {
	row = row[:cap(row)]
	for i := range row {
		row[i] ^= 0xFF
	}
}

var rows = [][]byte{
	nil, {}, {0}, {0, 0, 0}, {1}, {255}, {1, 0}, {0, 1}, {7, 0, 0, 0}, {0, 0, 5}, {0, 0, 5, 0, 0}, {1, 0, 3}, {2, 0x80}, {1, 1}, {1, 1, 0}, {9, 8, 7, 6, 5, 4, 3, 2, 1},
	some(2, 1), some(17, 2), some(255, 3), some(256, 4), some(257, 5), padded(some(40, 6), 900), make([]byte, 1000),
}

func TestExamples(t *testing.T) {
	if x := poly.Value([]byte{1, 0, 3}, 2); x != 13 {
		t.Error("1, 0, 3 at 2:", x)
	}
	if p, e := poly.Through([]byte{0, 1}, []byte{5, 5}); e != api.OK || !bytes.Equal(p, []byte{5}) {
		t.Error("0, 1 to 5, 5:", p, e)
	}
}

func TestMaxPoly(t *testing.T) {
	if poly.MaxPoly != 600 {
		t.Error(poly.MaxPoly)
	}
}

// P2.1

func TestLean(t *testing.T) {
	for _, c := range []struct{ p, want []byte }{
		{nil, nil}, {[]byte{}, nil}, {[]byte{0}, nil}, {[]byte{0, 0, 0, 0}, nil}, {[]byte{4}, []byte{4}}, {[]byte{4, 0}, []byte{4}}, {[]byte{0, 4}, []byte{0, 4}}, {[]byte{0, 4, 0, 0}, []byte{0, 4}}, {[]byte{1, 0, 2, 0, 3, 0}, []byte{1, 0, 2, 0, 3}}, {make([]byte, 70000), nil},
	} {
		if p := poly.Lean(c.p); !bytes.Equal(p, c.want) {
			t.Error(len(c.p), p)
		}
	}
	for size := range 1300 {
		p := some(size, size)
		if !bytes.Equal(poly.Lean(p), p) || !bytes.Equal(poly.Lean(padded(p, size)), p) || !bytes.Equal(poly.Lean(poly.Lean(p)), p) {
			t.Error(size)
		}
	}
	long := padded(some(100000, 7), 100000)
	if !bytes.Equal(poly.Lean(long), long[:100000]) {
		t.Error("a long row")
	}
}

func TestValue(t *testing.T) {
	for i, p := range rows {
		for x := range 256 {
			if v := poly.Value(p, byte(x)); v != value(p, byte(x)) {
				t.Error(i, x, v)
			}
		}
	}
	for _, size := range []int{599, 600, 601, 5000, 70000} {
		p := some(size, size)
		for _, x := range []byte{0, 1, 2, 3, 128, 255} {
			if v := poly.Value(p, x); v != value(p, x) || v != poly.Value(padded(p, 700), x) {
				t.Error(size, x, v)
			}
		}
	}
}

func TestValueAtZeroAndOne(t *testing.T) {
	for i, p := range rows {
		first, all := byte(0), byte(0)
		for j, c := range p {
			if j == 0 {
				first = c
			}
			all ^= c
		}
		if x := poly.Value(p, 0); x != first {
			t.Error("at 0:", i, x)
		}
		if x := poly.Value(p, 1); x != all {
			t.Error("at 1:", i, x)
		}
	}
}

func TestAdd(t *testing.T) {
	for i, p := range rows {
		for j, q := range rows {
			if s := poly.Add(p, q); !bytes.Equal(s, sum(p, q)) {
				t.Error(i, j, s)
			}
		}
		if s := poly.Add(p, p); len(s) != 0 {
			t.Error("twice:", i, s)
		}
	}
	for _, c := range []struct{ p, q, want []byte }{
		{[]byte{1, 2, 3}, []byte{5, 0, 3}, []byte{4, 2}}, {[]byte{1, 2, 3}, []byte{0, 2, 3}, []byte{1}}, {[]byte{1, 0, 3}, []byte{1, 0, 3, 0}, nil}, {[]byte{0, 0}, []byte{0, 0, 0}, nil}, {[]byte{1}, []byte{0, 0, 9}, []byte{1, 0, 9}},
	} {
		if s := poly.Add(c.p, c.q); !bytes.Equal(s, c.want) {
			t.Error(c.p, c.q, s)
		}
	}
}

func TestAddLongRows(t *testing.T) {
	for _, size := range []int{600, 601, 1200, 70000} {
		p, q := some(size, 1), some(size, 2)
		q[size-1] = p[size-1]
		if s := poly.Add(p, q); !bytes.Equal(s, sum(p, q)) || !isLean(s) || len(s) >= size {
			t.Error(size, len(s))
		}
		if s := poly.Add(p, q[:3]); !bytes.Equal(s, sum(p, q[:3])) {
			t.Error(size, len(s))
		}
		if s := poly.Add(nil, padded(p, size)); !bytes.Equal(s, p) {
			t.Error(size, len(s))
		}
	}
}

// P2.2

func TestMul(t *testing.T) {
	for i, p := range rows {
		for j, q := range rows {
			if m, e := poly.Mul(p, q); e != api.OK || !bytes.Equal(m, product(p, q)) {
				t.Error(i, j, m, e)
			}
		}
	}
	for _, c := range []struct{ p, q, want []byte }{
		{[]byte{1, 1}, []byte{1, 1, 0}, []byte{1, 0, 1}}, {[]byte{2, 0x80}, []byte{0, 2}, []byte{0, 4, 0x1D}}, {[]byte{2, 3}, nil, nil}, {[]byte{0, 0}, []byte{2, 3}, nil}, {nil, nil, nil}, {[]byte{1}, []byte{8, 9}, []byte{8, 9}}, {[]byte{0, 0, 1}, []byte{8, 9, 0}, []byte{0, 0, 8, 9}},
	} {
		if m, e := poly.Mul(c.p, c.q); e != api.OK || !bytes.Equal(m, c.want) {
			t.Error(c.p, c.q, m, e)
		}
	}
}

func TestMulOfBytes(t *testing.T) {
	for a := 1; a < 256; a++ {
		for b := 1; b < 256; b++ {
			if m, e := poly.Mul([]byte{byte(a)}, []byte{byte(b), 0}); e != api.OK || !bytes.Equal(m, []byte{times(byte(a), byte(b))}) {
				t.Fatal(a, b, m, e)
			}
		}
	}
}

func TestMulAtTheLimit(t *testing.T) {
	p, q := some(600, 1), some(600, 2)
	m, e := poly.Mul(p, q)
	if e != api.OK || len(m) != 1199 || !bytes.Equal(m, product(p, q)) {
		t.Error("600 by 600:", len(m), e)
	}
	for _, size := range []int{0, 1, 2, 599, 600} {
		r := some(size, size)
		for _, c := range [][2][]byte{{padded(p, 1), r}, {r, padded(p, 1)}, {padded(p, 5000), padded(r, 5000)}} {
			if m, e := poly.Mul(c[0], c[1]); e != api.OK || !bytes.Equal(m, product(p, r)) {
				t.Error("lean at 600:", size, len(m), e)
			}
		}
	}
	if m, e := poly.Mul(make([]byte, 5000), make([]byte, 5000)); e != api.OK || len(m) != 0 {
		t.Error("noughts:", m, e)
	}
}

// tooLong are rows that are, lean, of more than 600 bytes.
func tooLong() [][]byte {
	high := make([]byte, 601)
	high[600] = 1
	return [][]byte{some(601, 3), high, padded(high, 40), some(602, 4), some(70000, 5)}
}

func TestMulOfLongRows(t *testing.T) {
	for i, p := range tooLong() {
		for j, q := range append(rows, some(600, 6), p) {
			if m, e := poly.Mul(p, q); e != api.ErrLong || len(m) != 0 {
				t.Error(i, j, len(m), e)
			}
			if m, e := poly.Mul(q, p); e != api.ErrLong || len(m) != 0 {
				t.Error(i, j, len(m), e)
			}
		}
	}
}

// divided asks whether quotient and rest are those of p by q.
func divided(p, q, quotient, rest []byte) bool {
	return isLean(quotient) && isLean(rest) && len(rest) < len(lean(q)) && bytes.Equal(sum(product(quotient, q), rest), lean(p))
}

func TestDiv(t *testing.T) {
	for i, p := range rows {
		for j, q := range rows {
			if len(lean(q)) == 0 {
				continue
			}
			if quotient, rest, e := poly.Div(p, q); e != api.OK || !divided(p, q, quotient, rest) {
				t.Error(i, j, quotient, rest, e)
			}
		}
	}
	for _, c := range []struct{ p, q, quotient, rest []byte }{
		{[]byte{7, 0, 1}, []byte{1, 1}, []byte{1, 1}, []byte{6}}, {[]byte{7, 0, 1, 0}, []byte{1, 1, 0}, []byte{1, 1}, []byte{6}}, {[]byte{1, 0, 1}, []byte{1, 1}, []byte{1, 1}, nil}, {[]byte{0, 4, 0x1D}, []byte{0, 2}, []byte{2, 0x80}, nil}, {[]byte{4, 6}, []byte{2}, []byte{2, 3}, nil}, {[]byte{3, 0, 0, 1}, []byte{0, 0, 1}, []byte{0, 1}, []byte{3}}, {[]byte{5, 6, 1}, []byte{5, 6, 1}, []byte{1}, nil}, {[]byte{5, 6, 1}, []byte{4, 6, 1}, []byte{1}, []byte{1}},
	} {
		if quotient, rest, e := poly.Div(c.p, c.q); e != api.OK || !bytes.Equal(quotient, c.quotient) || !bytes.Equal(rest, c.rest) {
			t.Error(c.p, c.q, quotient, rest, e)
		}
	}
}

func TestDivOfLowerDegree(t *testing.T) {
	for size := range 30 {
		q := some(size+1, 9)
		for less := range size + 1 {
			p := some(less, 8)
			if quotient, rest, e := poly.Div(padded(p, 50), q); e != api.OK || len(quotient) != 0 || !bytes.Equal(rest, p) {
				t.Error(less, size, quotient, rest, e)
			}
		}
	}
}

func TestDivOfProducts(t *testing.T) {
	for size := range 40 {
		p, q := some(size, 1), some(size/2+1, 2)
		for less := range len(q) {
			rest := some(less, 3)
			x, y, e := poly.Div(sum(product(p, q), rest), q)
			if e != api.OK || !bytes.Equal(x, p) || !bytes.Equal(y, rest) {
				t.Error(size, less, x, y, e)
			}
		}
	}
}

func TestDivAtTheLimit(t *testing.T) {
	p := some(600, 1)
	for _, size := range []int{1, 2, 100, 300, 599, 600} {
		q := some(size, 2)
		for _, c := range [][2][]byte{{p, q}, {padded(p, 1), padded(q, 600)}, {padded(p, 3000), q}} {
			if quotient, rest, e := poly.Div(c[0], c[1]); e != api.OK || len(quotient) != 601-size || !divided(p, q, quotient, rest) {
				t.Error(size, len(quotient), len(rest), e)
			}
		}
		if quotient, rest, e := poly.Div(make([]byte, 3000), q); e != api.OK || len(quotient) != 0 || len(rest) != 0 {
			t.Error("of noughts:", size, quotient, rest, e)
		}
	}
}

func TestDivByNone(t *testing.T) {
	for _, q := range [][]byte{nil, {}, {0}, {0, 0}, make([]byte, 600), make([]byte, 601), make([]byte, 5000)} {
		for i, p := range append(rows, some(600, 1), padded(some(600, 1), 9)) {
			if quotient, rest, e := poly.Div(p, q); e != api.ErrZero || len(quotient) != 0 || len(rest) != 0 {
				t.Error(i, len(q), quotient, rest, e)
			}
		}
		for i, p := range tooLong() {
			if quotient, rest, e := poly.Div(p, q); e != api.ErrLong || len(quotient) != 0 || len(rest) != 0 {
				t.Error("what is named first:", i, len(q), len(quotient), len(rest), e)
			}
		}
	}
}

func TestDivOfLongRows(t *testing.T) {
	for i, p := range tooLong() {
		for j, q := range append(rows, some(600, 6), p) {
			if quotient, rest, e := poly.Div(p, q); e != api.ErrLong || len(quotient) != 0 || len(rest) != 0 {
				t.Error(i, j, len(quotient), len(rest), e)
			}
			if quotient, rest, e := poly.Div(q, p); e != api.ErrLong || len(quotient) != 0 || len(rest) != 0 {
				t.Error(i, j, len(quotient), len(rest), e)
			}
		}
	}
}

// P2.3

func TestThrough(t *testing.T) {
	for _, c := range []struct{ xs, ys, want []byte }{
		{nil, nil, nil}, {[]byte{}, nil, nil}, {nil, []byte{}, nil}, {[]byte{2}, []byte{9}, []byte{9}}, {[]byte{0}, []byte{0}, nil}, {[]byte{0, 1}, []byte{5, 4}, []byte{5, 1}}, {[]byte{1, 0}, []byte{0, 0}, nil}, {[]byte{0, 1, 2}, []byte{0, 1, 4}, []byte{0, 0, 1}}, {[]byte{9, 3, 200, 0}, []byte{7, 7, 7, 7}, []byte{7}}, {[]byte{0, 255, 128}, []byte{0, 255, 128}, []byte{0, 1}},
	} {
		if p, e := poly.Through(c.xs, c.ys); e != api.OK || !bytes.Equal(p, c.want) {
			t.Error(c.xs, c.ys, p, e)
		}
	}
}

func TestThroughSomePoints(t *testing.T) {
	for _, n := range []int{1, 2, 3, 5, 16, 100, 255, 256} {
		for seed := range 20 {
			xs, ys := make([]byte, n), some(n, seed)
			for i := range xs {
				xs[i] = byte(i*(2*seed+1) + seed) // an odd step meets no byte twice
			}
			p, e := poly.Through(xs, ys)
			if e != api.OK || !isLean(p) || len(p) > n {
				t.Error(n, seed, len(p), e)
			}
			for i, x := range xs {
				if value(p, x) != ys[i] {
					t.Error(n, seed, i)
				}
			}
		}
	}
}

func TestThroughInAnyOrder(t *testing.T) {
	xs, ys := []byte{3, 0, 255, 77, 12}, []byte{1, 200, 0, 0, 45}
	want, e := poly.Through(xs, ys)
	if e != api.OK || len(want) != 5 {
		t.Error(want, e)
	}
	for i := range xs {
		for j := range i {
			xs[i], xs[j], ys[i], ys[j] = xs[j], xs[i], ys[j], ys[i]
			if p, e := poly.Through(xs, ys); e != api.OK || !bytes.Equal(p, want) {
				t.Error(xs, p, e)
			}
		}
	}
}

func TestThroughBytesTwice(t *testing.T) {
	for _, xs := range [][]byte{{1, 1}, {0, 0}, {255, 3, 255}, {1, 2, 1}, {1, 2, 3, 4, 4}, {4, 4, 1, 2, 3}, {0, 9, 8, 7, 0}, make([]byte, 300), append(places(256), 0), append(places(256), 255), append(places(256), places(256)...), make([]byte, 100000)} {
		for seed := range 3 {
			ys := some(len(xs), seed)
			if seed == 0 {
				ys = make([]byte, len(xs)) // one byte to one value, told twice, is a byte twice nevertheless
			}
			if p, e := poly.Through(xs, ys); e != api.ErrTwice || len(p) != 0 {
				t.Error(len(xs), seed, p, e)
			}
		}
	}
	for i := range 40 {
		for j := range i {
			xs := places(40)
			xs[i] = xs[j]
			if p, e := poly.Through(xs, some(40, i)); e != api.ErrTwice || len(p) != 0 {
				t.Error(i, j, p, e)
			}
		}
	}
}

func TestThroughRowsOfUnlikeLengths(t *testing.T) {
	for _, c := range []struct{ xs, ys []byte }{
		{[]byte{1}, nil}, {nil, []byte{1}}, {[]byte{}, []byte{0}}, {[]byte{1, 2}, []byte{1}}, {[]byte{1, 2}, []byte{1, 2, 0}}, {[]byte{1, 1}, []byte{1}}, {[]byte{1, 1}, []byte{1, 1, 1}}, {places(256), make([]byte, 255)}, {make([]byte, 300), make([]byte, 44)},
	} {
		if p, e := poly.Through(c.xs, c.ys); e != api.ErrArg || len(p) != 0 {
			t.Error(len(c.xs), len(c.ys), p, e)
		}
	}
}

// P2.4

func TestNoMoreNoughtsThanTheDegree(t *testing.T) {
	for i, p := range append(rows, places(256), some(600, 1)) {
		p := poly.Lean(p)
		if len(p) == 0 {
			continue
		}
		found := 0
		for x := range 256 {
			if poly.Value(p, byte(x)) == 0 {
				found++
			}
		}
		if found >= len(p) {
			t.Error(i, found, len(p))
		}
	}
}

func TestNoughtsWhereTheyArePut(t *testing.T) {
	p := []byte{3}
	for n := range 256 {
		for x := range 256 {
			if (poly.Value(p, byte(x)) == 0) != (x < n) {
				t.Fatal(n, x)
			}
		}
		more, e := poly.Mul(p, []byte{byte(n), 1})
		if e != api.OK || len(more) != n+2 {
			t.Fatal(n, len(more), e)
		}
		p = more
	}
	if quotient, rest, e := poly.Div(p, []byte{100, 1}); e != api.OK || len(quotient) != 256 || len(rest) != 0 {
		t.Error(len(quotient), rest, e)
	}
}

func TestJustOneThroughPoints(t *testing.T) {
	xs := places(256)
	for i, p := range append(rows, some(255, 1), some(256, 2)) {
		p := lean(p)
		for n := len(p); n <= 256; n += 1 + n/3 {
			ys := make([]byte, n)
			for j := range ys {
				ys[j] = poly.Value(p, xs[j])
			}
			if back, e := poly.Through(xs[:n], ys); e != api.OK || !bytes.Equal(back, p) {
				t.Error(i, n, back, e)
			}
		}
	}
}

func TestValuesOfSumsProductsAndQuotients(t *testing.T) {
	for i, p := range rows {
		for j, q := range rows {
			sum := poly.Add(p, q)
			product, e := poly.Mul(p, q)
			quotient, rest, none := poly.Div(p, q)
			if e != api.OK || (none == api.OK) != (len(lean(q)) != 0) {
				t.Fatal(i, j, e, none)
			}
			for x := range 256 {
				x := byte(x)
				a, b := poly.Value(p, x), poly.Value(q, x)
				if poly.Value(sum, x) != a^b || poly.Value(product, x) != times(a, b) {
					t.Fatal(i, j, x)
				}
				if none == api.OK && times(poly.Value(quotient, x), b)^poly.Value(rest, x) != a {
					t.Fatal("a quotient:", i, j, x)
				}
			}
		}
	}
}

// R3: arguments stay as they were, and answers share no memory with them.

// pair is a row before another one, in one memory, with bytes behind them.
func pair(p, q []byte) (back, a, b []byte) {
	back = append(append(append([]byte{}, p...), q...), 9, 8, 7)
	return back, back[:len(p)], back[len(p) : len(p)+len(q)]
}

func TestRowsStayAsTheyWere(t *testing.T) {
	sorts := append(rows, some(600, 1), padded(some(600, 2), 4), some(601, 3))
	for i, p := range sorts {
		for j, q := range sorts {
			back, a, b := pair(p, q)
			was := append([]byte{}, back...)
			quotient, rest, _ := poly.Div(a, b)
			answers := [][]byte{poly.Lean(a), poly.Lean(b), poly.Add(a, b), poly.Add(b, a), quotient, rest}
			product, _ := poly.Mul(a, b)
			through, _ := poly.Through(a, b)
			answers = append(answers, product, through)
			poly.Value(a, 3)
			if !bytes.Equal(back, was) {
				t.Fatal("changed:", i, j)
			}
			for k, answer := range answers {
				if spoil(answer); !bytes.Equal(back, was) {
					t.Fatal("shared:", i, j, k)
				}
			}
		}
	}
}

func TestThroughLeavesPoints(t *testing.T) {
	for _, n := range []int{1, 2, 7, 256} {
		back, xs, ys := pair(places(n), some(n, n))
		was := append([]byte{}, back...)
		p, e := poly.Through(xs, ys)
		if e != api.OK || !bytes.Equal(back, was) {
			t.Error("changed:", n, e)
		}
		if spoil(p); !bytes.Equal(back, was) {
			t.Error("shared:", n)
		}
	}
}

func TestAnswersShareNoMemory(t *testing.T) {
	p, q := some(50, 1), some(20, 2)
	for range 2 {
		quotient, rest, e := poly.Div(p, q)
		if e != api.OK || !divided(p, q, quotient, rest) {
			t.Fatal(quotient, rest, e)
		}
		was := append([]byte{}, rest...)
		if spoil(quotient); !bytes.Equal(rest, was) {
			t.Error("the rest went with the quotient")
		}
		spoil(rest)
	}
	for range 2 {
		one, e := poly.Mul([]byte{1}, []byte{1})
		if e != api.OK || !bytes.Equal(one, []byte{1}) {
			t.Error(one, e)
		}
		spoil(one)
		if p, e := poly.Through([]byte{4}, []byte{1}); e != api.OK || !bytes.Equal(p, []byte{1}) {
			t.Error(p, e)
		}
	}
}

func TestARowByItself(t *testing.T) {
	for i, p := range rows {
		p := append([]byte{}, p...)
		if m, e := poly.Mul(p, p); e != api.OK || !bytes.Equal(m, product(p, p)) {
			t.Error(i, m, e)
		}
		if len(lean(p)) == 0 {
			continue
		}
		if quotient, rest, e := poly.Div(p, p); e != api.OK || !bytes.Equal(quotient, []byte{1}) || len(rest) != 0 {
			t.Error(i, quotient, rest, e)
		}
	}
	xs := places(256)
	if p, e := poly.Through(xs, xs); e != api.OK || !bytes.Equal(p, []byte{0, 1}) {
		t.Error(p, e)
	}
}

// R4, R6: one thing is answered alike each time, and lists without elements and nil ones are one.
func TestAlikeEachTime(t *testing.T) {
	for i, p := range rows {
		q := some(i+1, i)
		x1, y1, e1 := poly.Div(p, q)
		m1, f1 := poly.Mul(p, q)
		x2, y2, e2 := poly.Div(padded(p, 3), q)
		m2, f2 := poly.Mul(p, padded(q, 3))
		if !bytes.Equal(x1, x2) || !bytes.Equal(y1, y2) || e1 != e2 || !bytes.Equal(m1, m2) || f1 != f2 {
			t.Error(i)
		}
		a, b := poly.Add(p, nil), poly.Add([]byte{}, p)
		if !bytes.Equal(a, b) || !bytes.Equal(a, poly.Lean(p)) {
			t.Error(i, a, b)
		}
	}
}
