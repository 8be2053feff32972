package frame

import (
	"hourglass/api"
	"hourglass/code"
	"hourglass/head"
)

// letter is what a datagram has.
type letter struct {
	api.Head
	body []byte
}

// open is what stands in a datagram.
func open(datagram []byte) (letter, api.Errno) {
	h, body, e := head.Parse(datagram)
	return letter{h, body}, e
}

// sealed is a letter's datagram.
func (l letter) sealed() ([]byte, api.Errno) { return head.Put(l.Head, l.body) }

// alike says whether others are of its frame.
func (l letter) alike(others ...letter) bool {
	for _, other := range others {
		if !head.Like(l.Head, other.Head) {
			return false
		}
	}
	return true
}

// held are letters' bodies, each with its index.
func held(letters ...letter) []code.Held {
	bodies := make([]code.Held, len(letters))
	for place, l := range letters {
		bodies[place] = code.Held{Index: l.Index, Bytes: l.body}
	}
	return bodies
}
