package head

import (
	"hourglass/api"
	"hourglass/pack"
	"hourglass/sum"
)

// open reads what is sealed, from behind the version on.
func open(b []byte) (*pack.Reader, api.Errno) {
	sealed, e := sum.Open(b)
	if e != api.OK {
		return nil, e
	}
	r := pack.Over(sealed)
	if r.Left() == 0 {
		return nil, api.ErrShape
	}
	if r.Number(1) != version {
		return nil, api.ErrVersion
	}
	return r, api.OK
}

// header reads a header; where bytes are missing the reader tells it at its end.
func header(r *pack.Reader) api.Head {
	var h api.Head
	h.Stream = r.Number(2)
	h.Frame = r.Number(4)
	h.Index = r.Number(1)
	h.N = r.Number(1)
	h.Rows = make([]api.Row, r.Number(1))
	h.Deadline = r.Number(4)
	for place := range h.Rows {
		h.Rows[place].K = r.Number(1)
		h.Rows[place].Len = r.Number(2)
	}
	return h
}
