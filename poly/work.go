package poly

import (
	"slices"

	"hourglass/field"
)

// work is a polynomial at work: a field, and its coefficients.
type work struct {
	*field.Field
	row []byte
}

// value goes from the end: each step is a product with x, so that no powers are asked.
func (w *work) value(x byte) byte {
	v := byte(0)
	for _, c := range slices.Backward(w.row) {
		v = field.Add(w.Mul(v, x), c)
	}
	return v
}

// add makes it more by a part of p.
func (w *work) add(p []byte, part byte) {
	w.row = Add(w.row, w.product(p, []byte{part}))
}

// multiply makes it its product with all factors.
func (w *work) multiply(factors ...[]byte) {
	for _, q := range factors {
		w.row = w.product(w.row, q)
	}
}

// product is lean, since no product of bytes that are not 0 is 0.
func (w *work) product(p, q []byte) []byte {
	p, q = trim(p), trim(q)
	if len(p) == 0 || len(q) == 0 {
		return nil
	}
	out := make([]byte, len(p)+len(q)-1)
	for i, a := range p {
		for j, b := range q {
			out[i+j] = field.Add(out[i+j], w.Mul(a, b))
		}
	}
	return out
}

// divide leaves the rest, and answers the quotient; it and q are lean, and q is not none.
func (w *work) divide(q []byte) []byte {
	top := len(q) - 1
	if len(w.row) <= top {
		return nil
	}
	quotient := make([]byte, len(w.row)-top)
	for place := range slices.Backward(quotient) {
		part, _ := w.Div(w.row[place+top], q[top]) // no division by 0: q is lean
		quotient[place] = part
		for i, c := range q {
			w.row[place+i] = field.Add(w.row[place+i], w.Mul(part, c))
		}
	}
	w.row = trim(w.row)
	return quotient
}

// trim is the part of p that is lean; it shares p's memory, unless it is empty.
func trim(p []byte) []byte {
	for i, c := range slices.Backward(p) {
		if c != 0 {
			return p[:i+1]
		}
	}
	return nil
}

func long(p []byte) bool { return len(trim(p)) > MaxPoly }

// one is the product of no factors.
func one() []byte { return []byte{1} }
