package lagr

import (
	"slices"

	"hourglass/api"
	"hourglass/field"
)

// work is points at work: a field, the points, and of each one the inverse of the product of its gaps, the sums of it and each of the others.
type work struct {
	*field.Field
	points []byte
	scales []byte
}

// stand makes more bytes points; ErrTwice, if one is a point already.
func (w *work) stand(more ...byte) api.Errno {
	for _, point := range more {
		scale := byte(1)
		for i, other := range w.points {
			part, e := w.Inv(field.Add(point, other))
			if e != api.OK { // a gap is 0 just between a byte and itself
				return api.ErrTwice
			}
			w.scales[i] = w.Mul(w.scales[i], part)
			scale = w.Mul(scale, part)
		}
		w.points = append(w.points, point)
		w.scales = append(w.scales, scale)
	}
	return api.OK
}

// weights are each point's scale by the gaps of at to all others: to those ahead of it, then to those behind it, so that at may be a point with no division by 0.
func (w *work) weights(at byte) []byte {
	weights := make([]byte, len(w.points))
	ahead, behind := byte(1), byte(1)
	for i, point := range w.points {
		weights[i] = w.Mul(w.scales[i], ahead)
		ahead = w.Mul(ahead, field.Add(at, point))
	}
	for i, point := range slices.Backward(w.points) {
		weights[i] = w.Mul(weights[i], behind)
		behind = w.Mul(behind, field.Add(at, point))
	}
	return weights
}

// values are those at some bytes, of the values at the points, which are as many.
func (w *work) values(values []byte, at ...byte) []byte {
	found := make([]byte, len(at))
	for i, x := range at {
		found[i], _ = w.Dot(w.weights(x), values)
	}
	return found
}
