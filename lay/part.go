package lay

import (
	"hourglass/api"
	"hourglass/code"
	"hourglass/strip"
)

// part is a row of a table, and from where to where its stripe stands in a body.
type part struct {
	row      api.Row
	from, to int
}

// stripe is the part of a body.
func (p part) stripe(body []byte) []byte {
	return body[p.from:p.to:p.to] // what is put behind a stripe must not reach into the next one
}

// spread puts a layer's stripes into bodies.
func (p part) spread(layer []byte, bodies ...[]byte) api.Errno {
	coder, e := code.New(len(bodies), p.row.K)
	if e != api.OK {
		return e
	}
	source, e := strip.Cut(layer, p.row.K)
	if e != api.OK {
		return e
	}
	symbols, e := coder.Encode(source)
	for index, symbol := range symbols {
		copy(p.stripe(bodies[index]), symbol)
	}
	return e
}

// layer is that of the first ones of bodies; they are enough.
func (p part) layer(n int, held ...code.Held) ([]byte, api.Errno) {
	coder, e := code.New(n, p.row.K)
	if e != api.OK {
		return nil, e
	}
	symbols := make([]code.Held, p.row.K)
	for place := range symbols {
		body := held[place]
		symbols[place] = code.Held{Index: body.Index, Bytes: p.stripe(body.Bytes)}
	}
	source, e := coder.Decode(symbols...)
	if e != api.OK {
		return nil, e
	}
	return strip.Join(source, p.row.Len)
}
