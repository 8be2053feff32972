package pack

import (
	"slices"

	"hourglass/api"
)

// stock is what a writer and a reader both have: bytes, those that were written, or those that are left; and the error that broke it.
type stock struct {
	held  []byte
	fault api.Errno
}

func (s *stock) state() api.Errno {
	if s == nil {
		return api.ErrNil
	}
	return s.fault
}

// fail breaks what was not broken; its bytes are asked for no more.
func (s *stock) fail(e api.Errno) {
	*s = stock{fault: e}
}

func (s *stock) many() int { return len(s.held) }

// add puts bytes behind the others.
func (s *stock) add(b []byte) {
	end := len(s.held)
	s.held = slices.Grow(s.held, len(b))[:end+len(b)]
	copy(s.held[end:], b)
}

// first is a copy of the first n bytes.
func (s *stock) first(n int) []byte {
	out := make([]byte, n)
	copy(out, s.held)
	return out
}

// pass goes over the first n bytes.
func (s *stock) pass(n int) {
	s.held = s.held[n:]
}
