package cache_test

import (
	"bytes"
	"slices"
	"testing"

	"hourglass/api"
	"hourglass/cache"
	"hourglass/code"
)

// What a cache tells is held against a coder that keeps nothing; what it keeps and counts, against this row of keys, which knows the words of the chapter alone.

// model is the keys that are kept, the one that was used longest ago first, and what was counted.
type model struct {
	n, room               int
	keys                  [][]int
	hits, misses, dropped int
}

// keyOf is k and the first k indexes.
func keyOf(k int, indexes []int) []int { return append([]int{k}, indexes[:k]...) }

func (m *model) find(key []int) int {
	return slices.IndexFunc(m.keys, func(kept []int) bool { return slices.Equal(kept, key) })
}

// ask is what an ask without an error does.
func (m *model) ask(k int, indexes []int) {
	key := keyOf(k, indexes)
	place := m.find(key)
	switch {
	case place >= 0:
		m.hits++
		m.keys = slices.Delete(m.keys, place, place+1)
	case len(m.keys) == m.room:
		m.misses++
		m.dropped++
		m.keys = slices.Delete(m.keys, 0, 1)
	default:
		m.misses++
	}
	m.keys = append(m.keys, key)
}

func (m *model) has(k int, indexes []int) bool {
	return k >= 1 && k <= len(indexes) && m.find(keyOf(k, indexes)) >= 0
}

func (m *model) stat() cache.Stat {
	return cache.Stat{Kept: len(m.keys), Hits: m.hits, Misses: m.misses, Dropped: m.dropped}
}

// pair is a cache, and its model.
type pair struct {
	t *testing.T
	*cache.Cache
	model *model
}

func paired(t *testing.T, n, room int) *pair {
	t.Helper()
	return &pair{t, made(t, n, room), &model{n: n, room: room}}
}

func made(t *testing.T, n, room int) *cache.Cache {
	t.Helper()
	c, e := cache.New(n, room)
	if e != api.OK || c == nil {
		t.Fatal(n, room, c, e)
	}
	if s := c.Stat(); s != (cache.Stat{}) {
		t.Fatal(n, room, s)
	}
	return c
}

// turn asks for a matrix, and holds what is told and counted against a coder's and the model's.
func (p *pair) turn(k int, indexes ...int) ([][]byte, api.Errno) {
	p.t.Helper()
	want, f := coderTurn(p.model.n, k, indexes...)
	if f == api.OK {
		p.model.ask(k, indexes)
	}
	m, e := p.Turn(k, indexes...)
	if e != f || !same(m, want) || e != api.OK && m != nil {
		p.t.Error("turn", p.model.n, p.model.room, k, indexes, len(m), e, f)
	}
	p.check("turn", k, indexes)
	return m, e
}

// decode asks for a source, likewise.
func (p *pair) decode(k int, held ...code.Held) ([][]byte, api.Errno) {
	p.t.Helper()
	want, f := coderDecode(p.model.n, k, held...)
	indexes := indexesOf(held)
	if f == api.OK {
		p.model.ask(k, indexes)
	}
	l, e := p.Decode(k, held...)
	if e != f || !same(l, want) || e != api.OK && l != nil {
		p.t.Error("decode", p.model.n, p.model.room, k, indexes, len(l), e, f)
	}
	p.check("decode", k, indexes)
	return l, e
}

// check holds the four numbers, and what is kept, against the model's, twice: it uses nothing.
func (p *pair) check(what string, k int, indexes []int) {
	p.t.Helper()
	for range 2 {
		if s, want := p.Stat(), p.model.stat(); s != want {
			p.t.Error(what, k, indexes, "counted", s, want)
		}
		if h, want := p.Has(k, indexes...), p.model.has(k, indexes); h != want {
			p.t.Error(what, k, indexes, "kept", h, want)
		}
		for _, key := range p.model.keys {
			if !p.Has(key[0], key[1:]...) {
				p.t.Error(what, k, indexes, "not kept", key)
			}
		}
	}
}

func coderTurn(n, k int, indexes ...int) ([][]byte, api.Errno) {
	c, e := code.New(n, k)
	if e != api.OK {
		return nil, e
	}
	return c.Turn(indexes...)
}

func coderDecode(n, k int, held ...code.Held) ([][]byte, api.Errno) {
	c, e := code.New(n, k)
	if e != api.OK {
		return nil, e
	}
	return c.Decode(held...)
}

// rule makes numbers, by a rule.
type rule struct{ state uint32 }

func ruled(seed int) *rule { return &rule{uint32(seed)*2654435761 + 12345} }

// below is a number from 0 to n - 1.
func (r *rule) below(n int) int {
	r.state = r.state*1664525 + 1013904223
	return int(r.state>>8) % n
}

// row is so many bytes.
func (r *rule) row(size int) []byte {
	out := make([]byte, size)
	for i := range out {
		out[i] = byte(r.below(256))
	}
	return out
}

// order is the numbers from 0 to n - 1.
func (r *rule) order(n int) []int {
	out := make([]int, n)
	for i := range out {
		out[i] = i
	}
	for i := range out {
		j := r.below(n)
		out[i], out[j] = out[j], out[i]
	}
	return out
}

// some is so many rows of so many bytes.
func some(high, wide, seed int) [][]byte {
	out, by := make([][]byte, high), ruled(seed)
	for i := range out {
		out[i] = by.row(wide)
	}
	return out
}

func order(n, seed int) []int { return ruled(seed).order(n) }

// symbols are those of a source.
func symbols(t *testing.T, n, k, wide, seed int) [][]byte {
	t.Helper()
	c, e := code.New(n, k)
	if e != api.OK {
		t.Fatal(n, k, e)
	}
	l, e := c.Encode(some(k, wide, seed))
	if e != api.OK {
		t.Fatal(n, k, e)
	}
	return l
}

// hold is the rows at some places, each with its index.
func hold(l [][]byte, indexes ...int) []code.Held {
	out := make([]code.Held, len(indexes))
	for i, index := range indexes {
		out[i] = code.Held{Index: index, Bytes: l[index]}
	}
	return out
}

// bare is symbols of any indexes, of so many noughts each.
func bare(wide int, indexes ...int) []code.Held {
	out := make([]code.Held, len(indexes))
	for i, index := range indexes {
		out[i] = code.Held{Index: index, Bytes: make([]byte, wide)}
	}
	return out
}

func indexesOf(held []code.Held) []int {
	out := make([]int, len(held))
	for i, symbol := range held {
		out[i] = symbol.Index
	}
	return out
}

func same(a, b [][]byte) bool { return slices.EqualFunc(a, b, bytes.Equal) }

func clone(l [][]byte) [][]byte {
	out := make([][]byte, len(l))
	for i, row := range l {
		out[i] = bytes.Clone(row)
	}
	return out
}
