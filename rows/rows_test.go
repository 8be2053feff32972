package rows_test

import (
	"bytes"
	"math"
	"slices"
	"testing"

	"hourglass/api"
	"hourglass/field"
	"hourglass/rows"
)

// What is asked of matrices is held against these, which know field and the words of the chapter.

func same(a, b [][]byte) bool { return slices.EqualFunc(a, b, bytes.Equal) }

// product is the sums of products, byte by byte; a has as many columns as b has rows.
func product(a, b [][]byte, columns int) [][]byte {
	f := field.New()
	out := make([][]byte, len(a))
	for r, row := range a {
		out[r] = make([]byte, columns)
		for c := range columns {
			for k, cell := range row {
				out[r][c] ^= f.Mul(cell, b[k][c])
			}
		}
	}
	return out
}

func unit(n int) [][]byte {
	out := make([][]byte, n)
	for k := range out {
		out[k] = make([]byte, n)
		out[k][k] = 1
	}
	return out
}

// some is a matrix of so many rows and columns, by a rule.
func some(high, wide, seed int) [][]byte {
	out, state := make([][]byte, high), uint32(seed)*2654435761+12345
	for r := range out {
		out[r] = make([]byte, wide)
		for c := range out[r] {
			state = state*1664525 + 1013904223
			out[r][c] = byte(state >> 24)
		}
	}
	return out
}

// whole is a matrix with an inverse: the product of one with 1 at the places k, k and noughts right of them, and of one with noughts left of such; its rows are turned round.
func whole(n, seed int) [][]byte {
	low, high := some(n, n, seed), some(n, n, seed+1)
	for r := range n {
		clear(low[r][r:])
		clear(high[r][:r])
		low[r][r], high[r][r] = 1, byte(r%255)+1
	}
	out := product(low, high, n)
	slices.Reverse(out)
	return out
}

// ranked is a matrix of the rank given: of so many rows that no others make, with sums of them behind.
func ranked(high, wide, rank, seed int) [][]byte {
	left, right := some(high, rank, seed), some(rank, wide, seed+1)
	for k := range rank {
		clear(left[k])
		clear(right[k][:k])
		left[k][k], right[k][k] = 1, byte(seed%255)+1
	}
	return product(left, right, wide)
}

func clone(m [][]byte) [][]byte {
	out := make([][]byte, len(m))
	for r, row := range m {
		out[r] = append([]byte{}, row...)
	}
	return out
}

// spoil writes over all memory that came with a row.
func spoil(row []byte) {
	row = row[:cap(row)]
	for i := range row {
		row[i] ^= 0xFF
	}
}

type sort struct {
	name string
	m    [][]byte
}

// wrong are rows that are no matrix.
func wrong() []sort {
	return []sort{
		{"1 and 0 bytes", [][]byte{{1}, {}}}, {"0 and 1 bytes", [][]byte{{}, {1}}}, {"none and 1 byte", [][]byte{nil, {0}}}, {"1 and 2 bytes", [][]byte{{1}, {1, 2}}}, {"2 and 1 bytes", [][]byte{{1, 2}, {1}}},
		{"one longer at the end", [][]byte{{1, 2}, {3, 4}, {5, 6, 7}}}, {"one longer amid", [][]byte{{1, 2}, {3, 4, 5}, {6, 7}}}, {"one shorter amid", [][]byte{{1, 2, 3}, {4, 5}, {6, 7, 8}}}, {"one longer ahead", [][]byte{{1, 2, 3, 4}, {0, 0, 0}, {0, 0, 0}}},
		{"256 nil rows", make([][]byte, 256)}, {"256 rows", some(256, 1, 1)}, {"256 columns", some(1, 256, 2)}, {"256 rows of 255", some(256, 255, 3)}, {"255 rows of 256", some(255, 256, 4)}, {"256 of 256", unit(256)}, {"far more rows", make([][]byte, 70000)}, {"far more columns", some(2, 70000, 5)},
	}
}

var heights = []int{0, 1, 2, 3, 7, 254, 255}

func TestExamples(t *testing.T) {
	a := [][]byte{{1, 1}, {0, 2}}
	if m, e := rows.Inverse(a); e != api.OK || !same(m, [][]byte{{1, 0x8E}, {0, 0x8E}}) {
		t.Error(m, e)
	}
	a = [][]byte{{1, 1}, {1, 1}}
	if m, e := rows.Inverse(a); e != api.ErrSingular || len(m) != 0 {
		t.Error(m, e)
	}
	if n := rows.Rank(a); n != 1 {
		t.Error(n)
	}
}

func TestMaxRows(t *testing.T) {
	if rows.MaxRows != 255 {
		t.Error(rows.MaxRows)
	}
}

// P3.1

func TestRight(t *testing.T) {
	for _, m := range [][][]byte{nil, {}, {nil}, {{}}, {nil, {}}, {{}, nil, {}}, {{0}}, {{1, 2, 3}}, {{1}, {2}, {3}}, make([][]byte, 255)} {
		if !rows.Right(m) {
			t.Error(m)
		}
	}
	for _, high := range heights {
		for _, wide := range heights {
			if !rows.Right(some(high, wide, high)) {
				t.Error(high, wide)
			}
		}
	}
	for _, c := range wrong() {
		if rows.Right(c.m) {
			t.Error(c.name)
		}
	}
}

func TestRightOfEachRow(t *testing.T) {
	for r := range 255 {
		for _, size := range []int{0, 2, 4, 255, 256} {
			m := some(255, 3, 1)
			m[r] = make([]byte, size)
			if rows.Right(m) {
				t.Error(r, size)
			}
		}
	}
}

func TestUnit(t *testing.T) {
	for n := range 256 {
		if m, e := rows.Unit(n); e != api.OK || !same(m, unit(n)) {
			t.Error(n, e)
		}
	}
	for _, n := range []int{-1, 256, -2, 257, -255, -256, 511, 512, 1 << 16, math.MaxInt32, math.MinInt32, math.MaxInt, math.MinInt} {
		if m, e := rows.Unit(n); e != api.ErrArg || len(m) != 0 {
			t.Error(n, len(m), e)
		}
	}
}

func TestMul(t *testing.T) {
	for i, c := range []struct{ a, b, want [][]byte }{
		{[][]byte{{2}}, [][]byte{{0x80}}, [][]byte{{0x1D}}}, {[][]byte{{1, 1}, {0, 2}}, [][]byte{{1, 0x8E}, {0, 0x8E}}, unit(2)}, {[][]byte{{1, 2, 4}}, [][]byte{{1}, {1}, {1}}, [][]byte{{7}}}, {[][]byte{{1}, {2}}, [][]byte{{3, 0x80}}, [][]byte{{3, 0x80}, {6, 0x1D}}}, {[][]byte{{0, 1}, {1, 0}}, [][]byte{{1, 2}, {3, 4}}, [][]byte{{3, 4}, {1, 2}}}, {[][]byte{{1, 2}, {3, 4}}, [][]byte{{0, 1}, {1, 0}}, [][]byte{{2, 1}, {4, 3}}},
	} {
		if m, e := rows.Mul(c.a, c.b); e != api.OK || !same(m, c.want) {
			t.Error(i, m, e)
		}
	}
}

func TestMulOfAllShapes(t *testing.T) {
	sizes := []int{1, 2, 3, 8, 40}
	for i, high := range sizes {
		for j, amid := range sizes {
			for k, wide := range sizes {
				a, b := some(high, amid, i+j), some(amid, wide, j+k+9)
				if m, e := rows.Mul(a, b); e != api.OK || !same(m, product(a, b, wide)) {
					t.Error(high, amid, wide, e)
				}
			}
		}
	}
	for _, c := range [][3]int{{255, 255, 255}, {255, 1, 255}, {1, 255, 1}, {255, 255, 1}, {1, 255, 255}, {254, 255, 3}} {
		a, b := some(c[0], c[1], 1), some(c[1], c[2], 2)
		if m, e := rows.Mul(a, b); e != api.OK || !same(m, product(a, b, c[2])) {
			t.Error(c, e)
		}
	}
}

func TestMulOfNone(t *testing.T) {
	for _, none := range [][][]byte{nil, {}} {
		for _, b := range [][][]byte{nil, {}} {
			if m, e := rows.Mul(none, b); e != api.OK || len(m) != 0 {
				t.Error(m, e)
			}
		}
		for _, high := range []int{1, 2, 255} { // rows without bytes by no rows: as many rows without bytes
			if m, e := rows.Mul(make([][]byte, high), none); e != api.OK || len(m) != high || !rows.Right(m) || len(m[0]) != 0 {
				t.Error(high, m, e)
			}
		}
		for _, b := range [][][]byte{{{}}, {nil, nil}, {{1}}, {{1, 2}, {3, 4}}} { // no columns, but rows
			if m, e := rows.Mul(none, b); e != api.ErrArg || len(m) != 0 {
				t.Error(b, m, e)
			}
		}
		for _, a := range [][][]byte{{{1}}, {{1, 2}, {3, 4}}} {
			if m, e := rows.Mul(a, none); e != api.ErrArg || len(m) != 0 {
				t.Error(a, m, e)
			}
		}
	}
	for _, amid := range []int{1, 3, 255} { // by rows without bytes: rows without bytes
		for _, high := range []int{1, 2, 255} {
			if m, e := rows.Mul(some(high, amid, 1), make([][]byte, amid)); e != api.OK || len(m) != high || !rows.Right(m) || len(m[0]) != 0 {
				t.Error(high, amid, m, e)
			}
		}
	}
}

func TestMulOfSizesThatDoNotFit(t *testing.T) {
	for _, high := range heights {
		for _, wide := range heights {
			for _, rest := range heights {
				a := some(high, wide, 1)
				if high == 0 {
					wide = 0
				}
				if wide == rest {
					continue
				}
				if m, e := rows.Mul(a, some(rest, high, 2)); e != api.ErrArg || len(m) != 0 {
					t.Error(high, wide, rest, e)
				}
			}
		}
	}
}

func TestMulOfNoMatrices(t *testing.T) {
	for _, c := range wrong() {
		// the other one is as the first row, or as how many there are, would have it
		for _, other := range [][][]byte{nil, unit(1), unit(2), unit(3), some(len(c.m[0]), 2, 1), some(2, len(c.m), 2), c.m} {
			if m, e := rows.Mul(c.m, other); e != api.ErrArg || len(m) != 0 {
				t.Error(c.name, len(other), e)
			}
			if m, e := rows.Mul(other, c.m); e != api.ErrArg || len(m) != 0 {
				t.Error(len(other), c.name, e)
			}
		}
	}
}

func TestApply(t *testing.T) {
	for _, high := range heights {
		for _, wide := range []int{1, 2, 3, 7, 254, 255} {
			a, v := some(high, wide, wide), some(1, wide, 7)[0]
			if high == 0 {
				continue
			}
			column := make([][]byte, wide)
			for i, b := range v {
				column[i] = []byte{b}
			}
			u, e := rows.Apply(a, v)
			if e != api.OK || len(u) != high {
				t.Fatal(high, wide, len(u), e)
			}
			for r, row := range product(a, column, 1) {
				if u[r] != row[0] {
					t.Error(high, wide, r)
				}
			}
		}
	}
	if u, e := rows.Apply([][]byte{{1, 2}, {0, 1}, {3, 0}}, []byte{2, 0x80}); e != api.OK || !bytes.Equal(u, []byte{0x1F, 0x80, 6}) {
		t.Error(u, e)
	}
}

func TestApplyToNone(t *testing.T) {
	for _, v := range [][]byte{nil, {}} {
		for _, a := range [][][]byte{nil, {}} {
			if u, e := rows.Apply(a, v); e != api.OK || len(u) != 0 {
				t.Error(u, e)
			}
		}
		for _, high := range []int{1, 2, 255} { // a sum of nothing is 0
			if u, e := rows.Apply(make([][]byte, high), v); e != api.OK || !bytes.Equal(u, make([]byte, high)) {
				t.Error(high, u, e)
			}
		}
	}
}

func TestApplyToRowsThatDoNotFit(t *testing.T) {
	for _, high := range heights {
		for _, wide := range heights {
			for _, size := range []int{0, 1, 2, 3, 4, 6, 7, 8, 253, 254, 255, 256, 1000} {
				a := some(high, wide, 3)
				if high == 0 {
					wide = 0
				}
				if size == wide {
					continue
				}
				if u, e := rows.Apply(a, make([]byte, size)); e != api.ErrArg || len(u) != 0 {
					t.Error(high, wide, size, u, e)
				}
			}
		}
	}
	for _, c := range wrong() {
		for _, size := range []int{0, 1, 2, 3, len(c.m[0]), len(c.m)} {
			if u, e := rows.Apply(c.m, make([]byte, size)); e != api.ErrArg || len(u) != 0 {
				t.Error(c.name, size, e)
			}
		}
	}
}

// P3.2

// inverts asks whether the product of both is the unit.
func inverts(a, b [][]byte) bool {
	n := len(a)
	return len(b) == n && same(product(a, b, n), unit(n)) && same(product(b, a, n), unit(n))
}

func TestInverse(t *testing.T) {
	for _, none := range [][][]byte{nil, {}} {
		if m, e := rows.Inverse(none); e != api.OK || len(m) != 0 {
			t.Error(m, e)
		}
	}
	for n := 1; n < 24; n++ {
		for seed := range 6 {
			a := whole(n, seed)
			if m, e := rows.Inverse(a); e != api.OK || !inverts(a, m) {
				t.Error(n, seed, e)
			}
		}
	}
	for _, n := range []int{100, 254, 255} {
		a := whole(n, n)
		if m, e := rows.Inverse(a); e != api.OK || !inverts(a, m) {
			t.Error(n, e)
		}
	}
}

func TestInverseOfUnits(t *testing.T) {
	for _, n := range []int{1, 2, 3, 64, 255} {
		if m, e := rows.Inverse(unit(n)); e != api.OK || !same(m, unit(n)) {
			t.Error(n, e)
		}
	}
}

// Rows in another order have noughts where a row is looked for first.
func TestInverseOfRowsInAnotherOrder(t *testing.T) {
	for _, n := range []int{2, 3, 5, 7, 16, 255} {
		for _, step := range []int{1, 2, 4, 8} {
			if n%2 == 0 && step > 1 {
				continue
			}
			a, want := make([][]byte, n), make([][]byte, n)
			for r := range n {
				a[r], want[r] = make([]byte, n), make([]byte, n)
			}
			for r := range n {
				at := (r*step + 1) % n
				a[r][at], want[at][r] = 2, 0x8E
			}
			if m, e := rows.Inverse(a); e != api.OK || !same(m, want) {
				t.Error(n, step, e)
			}
		}
	}
}

func TestInverseOfOneAndTwoRows(t *testing.T) {
	f := field.New()
	for x := range 256 {
		want, fault := f.Inv(byte(x))
		m, e := rows.Inverse([][]byte{{byte(x)}})
		if fault != api.OK && (e != api.ErrSingular || len(m) != 0) || fault == api.OK && (e != api.OK || !same(m, [][]byte{{want}})) {
			t.Error(x, m, e)
		}
	}
	cells := []byte{0, 1, 2, 3, 5, 0x80, 0x8E, 255}
	for _, a := range cells {
		for _, b := range cells {
			for _, c := range cells {
				for _, d := range cells {
					x := [][]byte{{a, b}, {c, d}}
					m, e := rows.Inverse(x)
					if f.Mul(a, d) == f.Mul(b, c) {
						if e != api.ErrSingular || len(m) != 0 {
							t.Error(x, m, e)
						}
					} else if e != api.OK || !inverts(x, m) {
						t.Error(x, m, e)
					}
				}
			}
		}
	}
}

func TestInverseOfSingularOnes(t *testing.T) {
	for _, n := range []int{1, 2, 3, 8, 30, 255} {
		for _, rank := range []int{0, 1, n / 2, n - 1} {
			if rank == n {
				continue
			}
			if m, e := rows.Inverse(ranked(n, n, rank, n)); e != api.ErrSingular || len(m) != 0 {
				t.Error(n, rank, len(m), e)
			}
		}
	}
	for at := range 9 {
		a := whole(9, 3)
		clear(a[at])
		if m, e := rows.Inverse(a); e != api.ErrSingular || len(m) != 0 {
			t.Error("a row of noughts:", at, m, e)
		}
		a = whole(9, 3)
		for _, row := range a {
			row[at] = 0
		}
		if m, e := rows.Inverse(a); e != api.ErrSingular || len(m) != 0 {
			t.Error("a column of noughts:", at, m, e)
		}
		a = whole(9, 3)
		a[at] = a[(at+4)%9]
		if m, e := rows.Inverse(a); e != api.ErrSingular || len(m) != 0 {
			t.Error("one row twice:", at, m, e)
		}
	}
}

func TestInverseOfWhatIsNotSquare(t *testing.T) {
	for _, high := range heights {
		for _, wide := range heights {
			if high == 0 || high == wide {
				continue
			}
			for _, a := range [][][]byte{some(high, wide, 1), ranked(high, wide, 0, 1), ranked(high, wide, min(high, wide), 1)} {
				if m, e := rows.Inverse(a); e != api.ErrArg || len(m) != 0 {
					t.Error(high, wide, e)
				}
			}
		}
	}
	for _, c := range wrong() {
		if m, e := rows.Inverse(c.m); e != api.ErrArg || len(m) != 0 {
			t.Error(c.name, e)
		}
	}
}

// What is named first: rows of noughts that are not as many as their columns, or no matrix, are ErrArg, not ErrSingular.
func TestInverseErrArgFirst(t *testing.T) {
	for i, a := range [][][]byte{{{0, 0}}, {{0}, {0}}, {{}}, {{}, {}}, {{0}, {0, 0}}, {{0, 0}, {0}}, {{0, 0}, {0, 0}, {0, 0}}, make([][]byte, 256), ranked(256, 256, 0, 1)} {
		if m, e := rows.Inverse(a); e != api.ErrArg || len(m) != 0 {
			t.Error(i, m, e)
		}
	}
}

func TestRank(t *testing.T) {
	for _, high := range []int{1, 2, 3, 8, 20} {
		for _, wide := range []int{1, 2, 3, 8, 20} {
			for rank := range min(high, wide) + 1 {
				for seed := range 4 {
					a := ranked(high, wide, rank, seed)
					if n := rows.Rank(a); n != rank {
						t.Error(high, wide, rank, seed, n)
					}
					slices.Reverse(a)
					if n := rows.Rank(a); n != rank {
						t.Error("turned round:", high, wide, rank, seed, n)
					}
				}
			}
		}
	}
	for _, c := range [][3]int{{255, 255, 0}, {255, 255, 1}, {255, 255, 100}, {255, 255, 254}, {255, 255, 255}, {1, 255, 1}, {255, 1, 1}, {255, 3, 3}, {3, 255, 2}} {
		if n := rows.Rank(ranked(c[0], c[1], c[2], 5)); n != c[2] {
			t.Error(c, n)
		}
	}
}

func TestRankOfNone(t *testing.T) {
	for _, a := range [][][]byte{nil, {}, {nil}, {{}}, {{}, nil}, make([][]byte, 255)} {
		if n := rows.Rank(a); n != 0 {
			t.Error(a, n)
		}
	}
	for _, c := range wrong() {
		if n := rows.Rank(c.m); n != 0 {
			t.Error(c.name, n)
		}
	}
}

// made asks whether a row is a sum of others, each by a byte.
func made(f *field.Field, row []byte, others [][]byte) bool {
	if len(others) == 0 {
		return bytes.Equal(row, make([]byte, len(row)))
	}
	for x := range 256 {
		left := append([]byte{}, row...)
		for i := range left {
			left[i] ^= f.Mul(byte(x), others[0][i])
		}
		if made(f, left, others[1:]) {
			return true
		}
	}
	return false
}

// free asks whether none of some rows is made of the others of them.
func free(some [][]byte) bool {
	f := field.New()
	for i, row := range some {
		if made(f, row, slices.Concat(some[:i], some[i+1:])) {
			return false
		}
	}
	return true
}

// The rank by its words: among all choices of rows, the most that are free.
func TestRankByItsWords(t *testing.T) {
	cells := [][]byte{{0, 0, 0}, {1, 2, 3}, {2, 4, 6}, {0, 0, 1}, {0, 5, 0}, {1, 2, 9}}
	for _, a := range cells {
		for _, b := range cells {
			for _, c := range cells {
				all, most := [][]byte{a, b, c}, 0
				for choice := range 8 {
					var chosen [][]byte
					for i, row := range all {
						if choice>>i&1 == 1 {
							chosen = append(chosen, row)
						}
					}
					if len(chosen) > most && free(chosen) {
						most = len(chosen)
					}
				}
				if n := rows.Rank(all); n != most {
					t.Error(all, n, most)
				}
			}
		}
	}
}

// P3.3

func TestProductsHoweverNested(t *testing.T) {
	for i, c := range [][4]int{{1, 1, 1, 1}, {2, 3, 4, 5}, {5, 4, 3, 2}, {1, 9, 1, 9}, {9, 1, 9, 1}, {30, 20, 10, 40}, {3, 255, 2, 255}} {
		x, y, z := some(c[0], c[1], i), some(c[1], c[2], i+1), some(c[2], c[3], i+2)
		xy, e1 := rows.Mul(x, y)
		yz, e2 := rows.Mul(y, z)
		one, e3 := rows.Mul(xy, z)
		other, e4 := rows.Mul(x, yz)
		if e1 != api.OK || e2 != api.OK || e3 != api.OK || e4 != api.OK || !same(one, other) {
			t.Error(c, e1, e2, e3, e4)
		}
		v := some(1, c[2], 8)[0]
		once, e5 := rows.Apply(y, v)
		twice, e6 := rows.Apply(x, once)
		if u, e := rows.Apply(xy, v); e != api.OK || e5 != api.OK || e6 != api.OK || !bytes.Equal(u, twice) {
			t.Error(c, e, e5, e6)
		}
	}
}

func TestUnitLeavesAMatrix(t *testing.T) {
	for _, high := range heights {
		for _, wide := range heights {
			a := some(high, wide, 4)
			if high == 0 {
				wide = 0
			}
			left, e1 := rows.Unit(high)
			right, e2 := rows.Unit(wide)
			if m, e := rows.Mul(left, a); e1 != api.OK || e != api.OK || !same(m, a) {
				t.Error(high, wide, e1, e)
			}
			if m, e := rows.Mul(a, right); e2 != api.OK || e != api.OK || !same(m, a) {
				t.Error(high, wide, e2, e)
			}
		}
	}
}

func TestInverseFromBothSides(t *testing.T) {
	for _, n := range []int{0, 1, 2, 3, 10, 60, 255} {
		a := whole(n, 2*n)
		b, e := rows.Inverse(a)
		if e != api.OK {
			t.Fatal(n, e)
		}
		for _, c := range [][2][][]byte{{a, b}, {b, a}} {
			if m, e := rows.Mul(c[0], c[1]); e != api.OK || !same(m, unit(n)) {
				t.Error(n, e)
			}
		}
		if m, e := rows.Inverse(b); e != api.OK || !same(m, a) {
			t.Error("the inverse of it:", n, e)
		}
		v := some(1, n, 6)[0]
		u, e1 := rows.Apply(a, v)
		if back, e := rows.Apply(b, u); e1 != api.OK || e != api.OK || !bytes.Equal(back, v) {
			t.Error("a row and back:", n, e1, e)
		}
	}
}

func TestInverseJustIfTheRankIsTheSize(t *testing.T) {
	met := map[api.Errno]int{}
	for n := range 8 {
		for seed := range 300 {
			a := some(n, n, seed)
			for _, row := range a {
				for c := range row {
					row[c] &= 1 << (seed % 5) // few bytes: so that some have an inverse, and some have none
				}
			}
			_, e := rows.Inverse(a)
			met[e]++
			if (rows.Rank(a) == n) != (e == api.OK) || e != api.OK && e != api.ErrSingular {
				t.Error(a, e, rows.Rank(a))
			}
		}
	}
	if met[api.OK] < 100 || met[api.ErrSingular] < 100 {
		t.Error(met)
	}
}

// R3: arguments stay as they were, and answers share no memory with them nor with one another.

// within is a matrix whose rows stand one after the other in one memory, with bytes behind them.
func within(m [][]byte) (back []byte, cut [][]byte) {
	back = append(bytes.Join(m, nil), 9, 8, 7)
	at := 0
	for _, row := range m {
		cut = append(cut, back[at:at+len(row)])
		at += len(row)
	}
	return back, cut
}

// apart asks whether each row of an answer can be written over, as far as its memory goes, with no change to the others.
func apart(answer [][]byte) bool {
	was := clone(answer)
	for r, row := range answer {
		spoil(row)
		for i, other := range answer {
			if i != r && !bytes.Equal(other, was[i]) {
				return false
			}
		}
		spoil(row)
	}
	return true
}

// answers are all that is answered of two matrices, errors' empty ones among it.
func answers(a, b [][]byte) [][][]byte {
	m, _ := rows.Mul(a, b)
	n, _ := rows.Mul(b, a)
	p, _ := rows.Mul(a, a)
	x, _ := rows.Inverse(a)
	y, _ := rows.Inverse(b)
	out := [][][]byte{m, n, p, x, y}
	for _, v := range append(slices.Clone(a), b...) {
		u, _ := rows.Apply(a, v)
		w, _ := rows.Apply(b, v)
		out = append(out, [][]byte{u, w})
	}
	rows.Rank(a)
	rows.Rank(b)
	rows.Right(a)
	return out
}

func TestMatricesStayAsTheyWere(t *testing.T) {
	sorts := [][][]byte{nil, {{}}, {{2}}, unit(3), {{1, 1}, {0, 2}}, {{0, 1}, {1, 0}}, {{1, 1}, {1, 1}}, {{0, 0, 3}, {0, 2, 0}, {1, 0, 0}}, {{1}, {1, 2}}, {{1, 2, 3}, {4, 5, 6}}, {{1, 2}, {3, 4}, {5, 6}}, whole(6, 1), ranked(6, 6, 4, 1), some(6, 4, 2), some(20, 6, 3)}
	for i, p := range sorts {
		for j, q := range sorts {
			left, a := within(p)
			right, b := within(q)
			wasLeft, wasRight := slices.Clone(left), slices.Clone(right)
			outA, outB := slices.Clone(a), slices.Clone(b) // the rows themselves, and where they stand
			for k, m := range answers(a, b) {
				if !apart(m) {
					t.Error("shared with one another:", i, j, k)
				}
				for r := range m {
					spoil(m[r])
				}
				clear(m[:cap(m)])
				if !bytes.Equal(left, wasLeft) || !bytes.Equal(right, wasRight) || !same(a, outA) || !same(b, outB) {
					t.Fatal("changed, or shared:", i, j, k)
				}
			}
			if !same(a, p) || !same(b, q) {
				t.Fatal("other rows:", i, j)
			}
		}
	}
}

func TestAnswersShareNoMemory(t *testing.T) {
	for range 2 { // what was written over must not come again
		for _, n := range []int{1, 2, 3, 17, 255} {
			a := whole(n, 1)
			m, e := rows.Unit(n)
			if e != api.OK || !same(m, unit(n)) || !apart(m) {
				t.Error("Unit:", n, e)
			}
			spoil(m[0])
			m, e = rows.Mul(unit(n), a)
			if e != api.OK || !same(m, a) || !apart(m) {
				t.Error("Mul:", n, e)
			}
			spoil(m[0])
			m, e = rows.Inverse(a)
			if e != api.OK || n < 20 && !inverts(a, m) || !apart(m) {
				t.Error("Inverse:", n, e)
			}
			spoil(m[0])
			u, e := rows.Apply(unit(n), a[0])
			if e != api.OK || !bytes.Equal(u, a[0]) {
				t.Error("Apply:", n, e)
			}
			spoil(u)
		}
	}
}

// Rows may share memory with one another, and a matrix may come as both arguments.
func TestRowsThatOverlap(t *testing.T) {
	back := []byte{1, 2, 3, 4, 5, 6}
	a := [][]byte{back[0:3], back[1:4], back[3:6]}
	b := clone(a)
	if m, e := rows.Mul(a, a); e != api.OK || !same(m, product(b, b, 3)) {
		t.Error(m, e)
	}
	if u, e := rows.Apply(a, a[1]); e != api.OK || len(u) != 3 {
		t.Error(u, e)
	}
	want, fault := rows.Inverse(b)
	if m, e := rows.Inverse(a); e != fault || !same(m, want) || rows.Rank(a) != rows.Rank(b) {
		t.Error(m, e)
	}
	once := [][]byte{back[:2], back[:2]}
	if m, e := rows.Inverse(once); e != api.ErrSingular || len(m) != 0 || rows.Rank(once) != 1 {
		t.Error(m, e)
	}
	if !bytes.Equal(back, []byte{1, 2, 3, 4, 5, 6}) {
		t.Error(back)
	}
}

// R4, R6: one thing is answered alike each time, and lists without elements and nil ones are one.
func TestAlikeEachTime(t *testing.T) {
	for seed := range 20 {
		a, b := some(seed, seed, seed), some(seed, 3, seed)
		m, e1 := rows.Mul(a, b)
		n, e2 := rows.Mul(clone(a), clone(b))
		x, e3 := rows.Inverse(a)
		y, e4 := rows.Inverse(clone(a))
		if !same(m, n) || e1 != e2 || !same(x, y) || e3 != e4 || rows.Rank(a) != rows.Rank(clone(a)) {
			t.Error(seed)
		}
	}
	for _, a := range [][][]byte{{nil, nil}, {{}, {}}, {nil, {}}} {
		m, e := rows.Mul(a, nil)
		if x, f := rows.Inverse(a); !rows.Right(a) || rows.Rank(a) != 0 || e != api.OK || len(m) != 2 || f != api.ErrArg || len(x) != 0 {
			t.Error(a, m, e, x, f)
		}
	}
}
