// Package field is layer 1: bytes as a field (shared/doc/01-field.md).
package field

import (
	"hourglass/api"
)

// Field is bytes as a field. One that New did not answer is none.
type Field struct{ tables }

// New is it, with its tables.
func New() *Field {
	f := &Field{}
	f.fill()
	return f
}

// Add is a sum.
func Add(a, b byte) byte { return a ^ b }

// Mul is a product.
func (f *Field) Mul(a, b byte) byte {
	if f.none() {
		return 0
	}
	return f.product(a, b)
}

// Div is a product with an inverse.
func (f *Field) Div(a, b byte) (byte, api.Errno) {
	inverse, e := f.Inv(b)
	if e != api.OK {
		return 0, e
	}
	return f.product(a, inverse), api.OK
}

// Inv is an inverse.
func (f *Field) Inv(a byte) (byte, api.Errno) {
	return f.Pow(a, -1)
}

// Pow is a power.
func (f *Field) Pow(a byte, n int) (byte, api.Errno) {
	switch {
	case f.none():
		return 0, api.ErrNil
	case a != 0:
		return f.power(a, n), api.OK
	case n < 0:
		return 0, api.ErrZero
	case n == 0:
		return 1, api.OK
	}
	return 0, api.OK
}

// Exp is a power of 2.
func (f *Field) Exp(n int) byte {
	if f.none() {
		return 0
	}
	return f.powers[turn(n)]
}

// Log is a logarithm.
func (f *Field) Log(a byte) (int, api.Errno) {
	if f.none() {
		return 0, api.ErrNil
	}
	if a == 0 {
		return 0, api.ErrZero
	}
	return int(f.logs[a]), api.OK
}

// Dot is the sum of products.
func (f *Field) Dot(a, b []byte) (byte, api.Errno) {
	if f.none() {
		return 0, api.ErrNil
	}
	if len(a) != len(b) {
		return 0, api.ErrArg
	}
	sum := byte(0)
	for i := range len(a) {
		sum = Add(sum, f.product(a[i], b[i]))
	}
	return sum, api.OK
}

func (f *Field) none() bool { return f == nil || !f.filled() }
