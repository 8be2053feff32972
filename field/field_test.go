package field_test

import (
	"bytes"
	"math"
	"testing"

	"hourglass/api"
	"hourglass/field"
)

// long is the product by the words of the chapter: of polynomials, and what is left of it.
func long(a, b byte) byte {
	p := 0
	for i := range 8 {
		if b>>i&1 == 1 {
			p ^= int(a) << i
		}
	}
	for i := 14; i >= 8; i-- {
		if p>>i&1 == 1 {
			p ^= 0x11D << (i - 8)
		}
	}
	return byte(p)
}

// search is the inverse of a byte that is not 0, found among all bytes.
func search(a byte) byte {
	for b := range 256 {
		if long(a, byte(b)) == 1 {
			return byte(b)
		}
	}
	return 0
}

// often is 1, multiplied by a so often.
func often(a byte, n uint64) byte {
	p := byte(1)
	for n > 0 {
		if n&1 == 1 {
			p = long(p, a)
		}
		a = long(a, a)
		n >>= 1
	}
	return p
}

// power is that of a byte; not of 0 to a number below 0.
func power(a byte, n int) byte {
	if n >= 0 {
		return often(a, uint64(n))
	}
	return often(search(a), -uint64(n))
}

var exponents = []int{
	0, 1, 2, 3, 7, 8, 127, 128, 254, 255, 256, 509, 510, 511, 65535, 1 << 20, math.MaxInt32, math.MaxInt - 1, math.MaxInt,
	-1, -2, -3, -8, -127, -128, -254, -255, -256, -509, -510, -511, -65536, math.MinInt32, math.MinInt + 1, math.MinInt,
}

func TestExamples(t *testing.T) {
	f := field.New()
	if p := f.Mul(2, 0x80); p != 0x1D {
		t.Error("2 by 0x80:", p)
	}
	if x, e := f.Inv(2); x != 0x8E || e != api.OK {
		t.Error("inverse of 2:", x, e)
	}
	if n, e := f.Log(4); n != 2 || e != api.OK {
		t.Error("logarithm of 4:", n, e)
	}
}

// P1.1

func TestAdd(t *testing.T) {
	for a := range 256 {
		for b := range 256 {
			want := 0
			for i := range 8 {
				if a>>i&1 != b>>i&1 {
					want += 1 << i
				}
			}
			if s := field.Add(byte(a), byte(b)); int(s) != want {
				t.Fatal(a, b, s, want)
			}
		}
	}
}

func TestMul(t *testing.T) {
	f := field.New()
	for a := range 256 {
		for b := range 256 {
			if p, want := f.Mul(byte(a), byte(b)), long(byte(a), byte(b)); p != want {
				t.Fatal(a, b, p, want)
			}
		}
		if f.Mul(byte(a), 0) != 0 || f.Mul(0, byte(a)) != 0 {
			t.Error("product with 0:", a)
		}
	}
}

func TestInv(t *testing.T) {
	f := field.New()
	if x, e := f.Inv(0); x != 0 || e != api.ErrZero {
		t.Error("inverse of 0:", x, e)
	}
	for a := 1; a < 256; a++ {
		if x, e := f.Inv(byte(a)); x != search(byte(a)) || e != api.OK {
			t.Error(a, x, e)
		}
	}
}

func TestDiv(t *testing.T) {
	f := field.New()
	for a := range 256 {
		if x, e := f.Div(byte(a), 0); x != 0 || e != api.ErrZero {
			t.Error("by 0:", a, x, e)
		}
	}
	for b := 1; b < 256; b++ {
		inverse := search(byte(b))
		for a := range 256 {
			if x, e := f.Div(byte(a), byte(b)); x != long(byte(a), inverse) || e != api.OK {
				t.Fatal(a, b, x, e)
			}
		}
	}
}

// P1.2

func TestPow(t *testing.T) {
	f := field.New()
	for a := 1; a < 256; a++ {
		for _, n := range exponents {
			if x, e := f.Pow(byte(a), n); x != power(byte(a), n) || e != api.OK {
				t.Error(a, n, x, e)
			}
		}
		up, down := byte(1), byte(1)
		for n := range 600 {
			if x, e := f.Pow(byte(a), n); x != up || e != api.OK {
				t.Fatal(a, n, x, e)
			}
			if x, e := f.Pow(byte(a), -n); x != down || e != api.OK {
				t.Fatal(a, -n, x, e)
			}
			up, down = long(up, byte(a)), long(down, search(byte(a)))
		}
	}
}

func TestPowOfZero(t *testing.T) {
	f := field.New()
	for _, n := range exponents {
		want, fault := byte(0), api.OK
		if n == 0 {
			want = 1
		}
		if n < 0 {
			fault = api.ErrZero
		}
		if x, e := f.Pow(0, n); x != want || e != fault {
			t.Error(n, x, e)
		}
	}
}

func TestExp(t *testing.T) {
	f := field.New()
	for _, n := range exponents {
		if x := f.Exp(n); x != power(2, n) {
			t.Error(n, x)
		}
	}
	for n := -1200; n <= 1200; n++ {
		if x := f.Exp(n); x != power(2, n) {
			t.Error(n, x)
		}
	}
}

func TestLog(t *testing.T) {
	f := field.New()
	if n, e := f.Log(0); n != 0 || e != api.ErrZero {
		t.Error("logarithm of 0:", n, e)
	}
	power := byte(1)
	for want := range 255 {
		if n, e := f.Log(power); n != want || e != api.OK {
			t.Error(power, n, e)
		}
		power = long(power, 2)
	}
}

// P1.3

func TestDot(t *testing.T) {
	f := field.New()
	for size := range 700 {
		a, b, want := make([]byte, size), make([]byte, size), byte(0)
		for i := range size {
			a[i], b[i] = byte(i*7+size), byte(i*i+3*size)
			want ^= long(a[i], b[i])
		}
		if s, e := f.Dot(a, b); s != want || e != api.OK {
			t.Error(size, s, want, e)
		}
	}
}

func TestDotOfNone(t *testing.T) {
	f := field.New()
	for _, a := range [][]byte{nil, {}} {
		for _, b := range [][]byte{nil, {}} {
			if s, e := f.Dot(a, b); s != 0 || e != api.OK {
				t.Error(a == nil, b == nil, s, e)
			}
		}
	}
}

func TestDotOfUnlikeLengths(t *testing.T) {
	f := field.New()
	for _, c := range []struct{ a, b []byte }{
		{nil, []byte{1}}, {[]byte{1}, nil}, {[]byte{}, []byte{0}}, {[]byte{1, 2}, []byte{1}}, {[]byte{1, 2}, []byte{1, 2, 3}}, {[]byte{9, 0}, []byte{9}}, {make([]byte, 300), make([]byte, 44)},
	} {
		if s, e := f.Dot(c.a, c.b); s != 0 || e != api.ErrArg {
			t.Error(len(c.a), len(c.b), s, e)
		}
	}
}

func TestDotLeavesRows(t *testing.T) {
	f := field.New()
	back := []byte{5, 0, 255, 2, 77, 78}
	a, b := back[:3], []byte{0, 9, 255}
	if _, e := f.Dot(a, b); e != api.OK {
		t.Error(e)
	}
	if _, e := f.Dot(a, b[:2]); e != api.ErrArg {
		t.Error(e)
	}
	if !bytes.Equal(back, []byte{5, 0, 255, 2, 77, 78}) || !bytes.Equal(b, []byte{0, 9, 255}) {
		t.Error(back, b)
	}
	if s, e := f.Dot(a, a); s != long(5, 5)^long(255, 255) || e != api.OK || a[0] != 5 {
		t.Error("a row by itself:", s, e)
	}
}

// P1.4

func TestNoField(t *testing.T) {
	var none *field.Field
	for name, f := range map[string]*field.Field{"nil": none, "not of New": new(field.Field)} {
		for _, a := range []byte{0, 1, 2, 255} {
			if f.Mul(a, 3) != 0 || f.Mul(3, a) != 0 || f.Exp(int(a)) != 0 || f.Exp(-int(a)) != 0 {
				t.Error(name, a)
			}
			for i, call := range []func() (byte, api.Errno){
				func() (byte, api.Errno) { return f.Div(3, a) },
				func() (byte, api.Errno) { return f.Div(a, 0) },
				func() (byte, api.Errno) { return f.Inv(a) },
				func() (byte, api.Errno) { return f.Pow(a, 0) },
				func() (byte, api.Errno) { return f.Pow(a, 5) },
				func() (byte, api.Errno) { return f.Pow(a, -5) },
				func() (byte, api.Errno) { return f.Dot([]byte{a}, []byte{3}) },
				func() (byte, api.Errno) { return f.Dot([]byte{a}, nil) },
				func() (byte, api.Errno) { return f.Dot(nil, nil) },
			} {
				if x, e := call(); x != 0 || e != api.ErrNil {
					t.Error(name, a, i, x, e)
				}
			}
			if n, e := f.Log(a); n != 0 || e != api.ErrNil {
				t.Error(name, a, n, e)
			}
		}
	}
}

func TestFieldsShareNothing(t *testing.T) {
	f, g := field.New(), field.New()
	if f == g {
		t.Fatal("New answers one field twice")
	}
	*f = field.Field{}
	if g.Mul(3, 3) != 5 || field.New().Mul(3, 3) != 5 {
		t.Error("a field went with another one")
	}
	if x, e := f.Inv(3); x != 0 || e != api.ErrNil {
		t.Error(x, e)
	}
}

// P1.5

func TestSumsAndProductsInAnyOrder(t *testing.T) {
	f := field.New()
	for a := range 256 {
		a := byte(a)
		if field.Add(a, 0) != a || field.Add(a, a) != 0 || f.Mul(a, 1) != a {
			t.Error(a)
		}
		for b := range 256 {
			b := byte(b)
			if field.Add(a, b) != field.Add(b, a) || f.Mul(a, b) != f.Mul(b, a) {
				t.Fatal(a, b)
			}
			ab := f.Mul(a, b)
			for c := range 256 {
				c := byte(c)
				if field.Add(field.Add(a, b), c) != field.Add(a, field.Add(b, c)) || f.Mul(ab, c) != f.Mul(a, f.Mul(b, c)) {
					t.Fatal("nested:", a, b, c)
				}
				if f.Mul(a, field.Add(b, c)) != field.Add(ab, f.Mul(a, c)) {
					t.Fatal("through sums:", a, b, c)
				}
			}
		}
	}
}

func TestOneInverse(t *testing.T) {
	f := field.New()
	for a := range 256 {
		var found []byte
		for b := range 256 {
			if f.Mul(byte(a), byte(b)) == 1 {
				found = append(found, byte(b))
			}
		}
		if a == 0 {
			if len(found) != 0 {
				t.Error("of 0:", found)
			}
			continue
		}
		if x, e := f.Inv(byte(a)); len(found) != 1 || found[0] != x || e != api.OK {
			t.Error(a, found, x, e)
		}
	}
}

func TestPowersOfTwoAreAllBytes(t *testing.T) {
	f := field.New()
	var seen [256]int
	for n := range 255 {
		x := f.Exp(n)
		seen[x]++
		if back, e := f.Log(x); back != n || e != api.OK {
			t.Error(n, x, back, e)
		}
	}
	for a, times := range seen {
		if a == 0 && times != 0 || a != 0 && times != 1 {
			t.Error(a, times)
		}
	}
}

// R4: one thing is answered alike each time, by each field.
func TestAlikeEachTime(t *testing.T) {
	f, g := field.New(), field.New()
	for a := range 256 {
		for b := range 256 {
			first, e := f.Div(byte(a), byte(b))
			again, e1 := f.Div(byte(a), byte(b))
			other, e2 := g.Div(byte(a), byte(b))
			if first != again || first != other || e != e1 || e != e2 {
				t.Fatal(a, b, first, again, other)
			}
		}
	}
}
