package group_test

import (
	"bytes"
	"math"
	"slices"
	"testing"

	"hourglass/api"
)

// P17.1: what becomes of a body.

// begun is a group of a header that holds the first ones of its bodies.
func begun(t *testing.T, h api.Head, list [][]byte, many int) pair {
	t.Helper()
	p := paired(t, h)
	for index := range many {
		p.takes(index, list[index])
	}
	return p
}

// at is a header of another index.
func at(h api.Head, index int) api.Head {
	h.Index = index
	return h
}

func TestTakeEachIndex(t *testing.T) {
	for seed, h := range few() {
		list := noise(h.N, h.Rows, seed)
		for first := range h.N {
			p := paired(t, at(h, first))
			p.agrees()
			p.takes(first, list[first])
			p.agrees()
			for index := range h.N {
				if index != first {
					p.takes(index, list[index])
					p.agrees()
				}
			}
		}
	}
}

func TestTakeBodiesOfAnotherLength(t *testing.T) {
	for seed, h := range heads() {
		size, list := long(h.Rows), [][]byte{some(long(h.Rows), seed)}
		for many := range 2 {
			p := begun(t, h, list, many)
			for _, other := range []int{0, 1, size - 2, size - 1, size + 1, size + 2, 2 * size, size + 256, size + 65536, size - 256, size * h.N, h.N} {
				if other >= 0 && other != size {
					p.fails(api.ErrArg, at(h, h.N-1), some(other, seed), other)
					p.fails(api.ErrArg, at(h, 0), some(other, seed), other)
				}
			}
			for _, none := range [][]byte{nil, {}, some(9, 1)[:0]} {
				if size > 0 {
					p.fails(api.ErrArg, at(h, h.N-1), none)
				}
			}
			if long(h.Rows) < 1000 {
				p.agrees()
			}
		}
	}
}

// Bodies without bytes are held, too: as if they had some, none comes twice.
func TestTakeBodiesWithoutBytes(t *testing.T) {
	for _, table := range [][]api.Row{rows(1, 0), rows(3, 0), rows(1, 0, 2, 0), rows(2, 0, 3, 0, 3, 0), slices.Repeat(rows(2, 0), 8)} {
		h := api.Head{Stream: 1, Frame: 2, N: 3, Deadline: 3, Rows: table}
		p := paired(t, h)
		for i, index := range []int{2, 0, 1} {
			none := [][]byte{nil, {}, some(9, 1)[:0]}[i]
			p.fails(api.ErrArg, at(h, index), []byte{0})
			p.takes(index, none)
			p.agrees()
			for _, again := range [][]byte{nil, {}, some(9, 1)[:0]} {
				p.fails(api.ErrTwice, at(h, index), again)
			}
			p.fails(api.ErrArg, at(h, index), []byte{0})
			p.agrees()
		}
		if p.Bytes() != 0 || p.Came() != 3 || !p.Whole() || len(p.Layers()) != len(table) {
			t.Error(table, p.Bytes(), p.Came(), p.Whole(), p.Layers())
		}
	}
}

func TestTakeEachIndexTwice(t *testing.T) {
	for seed, h := range few() {
		list := noise(h.N, h.Rows, seed)
		for many := 1; many <= h.N; many++ {
			p := begun(t, h, list, many)
			for index := range many {
				other := bytes.Clone(list[index])
				for i := range other {
					other[i] ^= byte(i + 1)
				}
				p.fails(api.ErrTwice, at(h, index), list[index])
				p.fails(api.ErrTwice, at(h, index), other)
				p.fails(api.ErrTwice, at(h, index), make([]byte, len(other)))
				p.fails(api.ErrTwice, at(h, index), list[(index+1)%h.N])
			}
			p.agrees()
			if many < h.N {
				p.takes(many, list[0]) // the same bytes at another index are another body
				p.agrees()
			}
		}
	}
}

// unlike are headers of another frame than a header, right ones and others.
func unlike(h api.Head) map[string]api.Head {
	out := map[string]api.Head{}
	with := func(name string, turn func(h *api.Head)) {
		x := copied(h)
		turn(&x)
		if !like(x, h) {
			out[name] = x
		}
	}
	last := len(h.Rows) - 1
	with("Stream one more", func(h *api.Head) { h.Stream++ })
	with("Stream one less", func(h *api.Head) { h.Stream-- })
	with("Stream cut", func(h *api.Head) { h.Stream += 65536 })
	with("Frame one more", func(h *api.Head) { h.Frame++ })
	with("Frame one less", func(h *api.Head) { h.Frame-- })
	with("Frame cut", func(h *api.Head) { h.Frame += 1 << 32 })
	with("N one more", func(h *api.Head) { h.N++ })
	with("N one less", func(h *api.Head) { h.N-- })
	with("N cut", func(h *api.Head) { h.N += 256 })
	with("Deadline one more", func(h *api.Head) { h.Deadline++ })
	with("Deadline one less", func(h *api.Head) { h.Deadline-- })
	with("Deadline cut", func(h *api.Head) { h.Deadline += 1 << 32 })
	with("one row more", func(h *api.Head) { h.Rows = append(h.Rows, h.Rows[last]) })
	with("one row more, without bytes", func(h *api.Head) { h.Rows = append(h.Rows, api.Row{K: h.N}) })
	with("one row less", func(h *api.Head) { h.Rows = h.Rows[:last] })
	with("no rows", func(h *api.Head) { h.Rows = nil })
	with("none", func(h *api.Head) { *h = api.Head{} })
	for place := range h.Rows {
		row := func(name string, turn func(row *api.Row)) {
			with(name+" of row "+string(rune('0'+place)), func(h *api.Head) { turn(&h.Rows[place]) })
		}
		row("K one more", func(row *api.Row) { row.K++ })
		row("K one less", func(row *api.Row) { row.K-- })
		row("K n", func(row *api.Row) { row.K = h.N })
		row("K of no table", func(row *api.Row) { row.K = h.N + 1 })
		row("K nought", func(row *api.Row) { row.K = 0 })
		row("K cut", func(row *api.Row) { row.K += 256 })
		row("Len one more", func(row *api.Row) { row.Len++ })
		row("Len one less", func(row *api.Row) { row.Len-- })
		row("Len cut", func(row *api.Row) { row.Len += 65536 })
		row("Len of no table", func(row *api.Row) { row.Len = -1 })
	}
	if len(h.Rows) > 1 {
		with("rows turned", func(h *api.Head) { slices.Reverse(h.Rows) })
	}
	return out
}

func TestTakeOfAnotherFrame(t *testing.T) {
	for seed, h := range few() {
		list := noise(h.N, h.Rows, seed)
		for many := range h.N + 1 {
			p := begun(t, h, list, many)
			for name, other := range unlike(h) {
				for _, index := range []int{-1, 0, many - 1, many, h.N - 1, h.N, other.N - 1, other.N} {
					body := list[max(0, min(index, h.N-1))]
					p.fails(api.ErrOdd, at(other, index), body, name)
					p.fails(api.ErrOdd, at(other, index), nil, name)
					if right(other) {
						p.fails(api.ErrOdd, at(other, index), some(long(other.Rows), 1), name)
					}
				}
			}
			p.agrees()
		}
	}
}

// Of a header that is like the group's, but has an index that is none.
func TestTakeOfNoIndex(t *testing.T) {
	for seed, h := range few() {
		list := noise(h.N, h.Rows, seed)
		for _, many := range []int{0, 1, h.N} {
			p := begun(t, h, list, many)
			for _, index := range slices.Concat(far, []int{h.N, h.N + 1, 255, 256, 257, 256 + h.N - 1, 65536, 1<<31 - 1}) {
				p.fails(api.ErrOdd, at(h, index), list[0], index)
				p.fails(api.ErrOdd, at(h, index), nil, index)
			}
			p.agrees()
		}
	}
}

func TestTakeOfEachNumberThatIsNone(t *testing.T) {
	for seed, h := range few() {
		list := noise(h.N, h.Rows, seed)
		p := begun(t, h, list, 1)
		for _, part := range parts() {
			for _, number := range slices.Concat(part.may, part.none) {
				x := copied(h)
				*part.of(&x) = number
				if part.name != "Index" && *part.of(&h) != number {
					p.fails(api.ErrOdd, x, list[0], part.name, number)
				}
				p.take(x, list[0])
				p.take(x, nil)
			}
		}
		for _, number := range slices.Concat(far, []int{0, 1, 2, 255, 256, 65535, 65536}) {
			for place := range h.Rows {
				x := copied(h)
				x.Rows[place].K = number
				p.take(x, list[0])
				x = copied(h)
				x.Rows[place].Len = number
				p.take(x, list[0])
			}
		}
		p.take(api.Head{Stream: math.MinInt, Frame: math.MaxInt, Index: math.MinInt, N: math.MaxInt, Deadline: math.MinInt, Rows: slices.Repeat(rows(math.MaxInt, math.MinInt), 300)}, list[0])
		p.agrees()
	}
}

// Where several errors hold, that of the header counts first, then that of the body, then that of the index.
func TestTakeInOrderOfErrors(t *testing.T) {
	h := good()
	list := noise(h.N, h.Rows, 1)
	p := begun(t, h, list, 3)
	other, wrong := copied(h), copied(h)
	other.Deadline++
	wrong.Rows[0].K = 0
	short, more := list[0][1:], append(bytes.Clone(list[0]), 1)
	for _, x := range []struct {
		want api.Errno
		h    api.Head
		body []byte
	}{
		{api.ErrOdd, at(other, 0), short},
		{api.ErrOdd, at(other, 0), list[0]},
		{api.ErrOdd, at(other, 8), more},
		{api.ErrOdd, at(other, 9), list[0]},
		{api.ErrOdd, at(other, 9), nil},
		{api.ErrOdd, at(wrong, 0), list[0]},
		{api.ErrOdd, at(wrong, 0), short},
		{api.ErrOdd, at(wrong, 8), nil},
		{api.ErrOdd, at(h, 9), short},
		{api.ErrOdd, at(h, -1), nil},
		{api.ErrArg, at(h, 0), short},
		{api.ErrArg, at(h, 0), more},
		{api.ErrArg, at(h, 0), nil},
		{api.ErrArg, at(h, 8), short},
		{api.ErrTwice, at(h, 0), list[0]},
		{api.ErrTwice, at(h, 2), list[8]},
		{api.OK, at(h, 8), list[8]},
		{api.ErrTwice, at(h, 8), list[8]},
		{api.ErrArg, at(h, 8), more},
	} {
		p.fails(x.want, x.h, x.body)
	}
	p.agrees()
}

// All of them at once, in all ways.
func TestTakeOfSeveralFaults(t *testing.T) {
	tally := map[api.Errno]int{}
	for seed, h := range few() {
		list := noise(h.N, h.Rows, seed)
		others := []api.Head{h}
		for _, other := range unlike(h) {
			others = append(others, other)
		}
		for many := range h.N + 1 {
			p := begun(t, h, list, many)
			for _, other := range others {
				for _, index := range []int{-1, 0, many - 1, h.N, math.MaxInt} {
					for _, body := range [][]byte{nil, list[0], append(bytes.Clone(list[0]), 0), make([]byte, long(h.Rows)/2)} {
						tally[p.take(at(other, index), body)]++
					}
				}
			}
			p.agrees()
		}
	}
	for _, e := range []api.Errno{api.OK, api.ErrOdd, api.ErrArg, api.ErrTwice} {
		if tally[e] < 4 {
			t.Error("the test's own bodies are too much alike", tally)
		}
	}
}

// What is told is the same, whatever is asked between, and how often.
func TestAskingTurnsNothing(t *testing.T) {
	for seed, h := range few() {
		list := noise(h.N, h.Rows, seed)
		p := paired(t, h)
		for _, index := range order(h.N, seed) {
			p.takes(index, list[index])
			for range 3 {
				p.agrees()
			}
		}
	}
}
