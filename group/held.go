package group

import (
	"slices"

	"hourglass/api"
	"hourglass/code"
	"hourglass/lay"
)

// first is a header of its own: that of the datagram 0, as all of a group are alike but for Index.
func first(h api.Head) api.Head {
	h.Index, h.Rows = 0, slices.Clone(h.Rows)
	return h
}

// long is how long each body is.
func (g *Group) long() int {
	long, _ := lay.Long(g.header.N, g.header.Rows) // its header is right: there is no error
	return long
}

// enough is how many bodies make it whole.
func (g *Group) enough() int {
	rows := g.header.Rows
	return rows[len(rows)-1].K // no threshold is below the one ahead
}

// held are its bodies, each with its index.
func (g *Group) held() []code.Held {
	bodies := make([]code.Held, 0, g.many())
	for index, body := range g.ordered() {
		bodies = append(bodies, code.Held{Index: index, Bytes: body})
	}
	return bodies
}
