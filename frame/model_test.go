package frame_test

import (
	"bytes"
	"encoding/binary"
	"hash/crc32"
	"math"
	"slices"
	"testing"

	"hourglass/api"
	"hourglass/frame"
	"hourglass/size"
)

// What is asked of the package is held against these, which know none of the layers below, but the words of the chapters alone.

// some is so many bytes, by a rule; none of them is 0, so that noughts are known from them.
func some(size, seed int) []byte {
	out, state := make([]byte, size), uint32(seed)*2654435761+12345
	for i := range out {
		state = state*1664525 + 1013904223
		out[i] = byte(state>>24)%255 + 1
	}
	return out
}

// rows are of such thresholds and lengths, by turns.
func rows(numbers ...int) []api.Row {
	var out []api.Row
	for i := 0; i < len(numbers); i += 2 {
		out = append(out, api.Row{K: numbers[i], Len: numbers[i+1]})
	}
	return out
}

// same says whether lists have the same rows of bytes.
func same(a, b [][]byte) bool { return slices.EqualFunc(a, b, bytes.Equal) }

// products are those of all bytes.
var products = func() (all [256][256]byte) {
	for a := range 256 {
		for b := range 256 {
			sum, step := 0, a
			for bit := range 8 {
				if b>>bit&1 == 1 {
					sum ^= step
				}
				if step <<= 1; step > 255 {
					step ^= 0x11D
				}
			}
			all[a][b] = byte(sum)
		}
	}
	return all
}()

// inverses are those of all bytes but 0.
var inverses = func() (all [256]byte) {
	for a := range 256 {
		all[a] = byte(max(0, bytes.IndexByte(products[a][:], 1)))
	}
	return all
}()

// weight is by how much the value at one point counts, of those at all points, for the value elsewhere.
func weight(points []byte, place int, at byte) byte {
	over, under := byte(1), byte(1)
	for other, point := range points {
		if other != place {
			over = products[over][at^point]
			under = products[under][points[place]^point]
		}
	}
	return products[over][inverses[under]]
}

// elsewhere is the row at a byte of the polynomials that have such rows at such points.
func elsewhere(points []byte, values [][]byte, at byte) []byte {
	out := make([]byte, len(values[0]))
	for place, row := range values {
		by := &products[weight(points, place, at)]
		for i, value := range row {
			out[i] ^= by[value]
		}
	}
	return out
}

// width is the least one of which k times are not below the length.
func width(long, k int) int {
	w := long / k
	for w*k < long {
		w++
	}
	return w
}

// long is how long a body of a table is.
func long(table []api.Row) int {
	sum := 0
	for _, row := range table {
		sum += width(row.Len, row.K)
	}
	return sum
}

// first are the points from 0 to k - 1.
func first(k int) []byte {
	out := make([]byte, k)
	for i := range out {
		out[i] = byte(i)
	}
	return out
}

// bodies are those of layers by thresholds that are a table's.
func bodies(n int, layers [][]byte, ks []int) [][]byte {
	out := make([][]byte, n)
	for place, layer := range layers {
		w := width(len(layer), ks[place])
		whole := append(bytes.Clone(layer), make([]byte, w*ks[place]-len(layer))...)
		source := make([][]byte, ks[place])
		for i := range source {
			source[i] = whole[i*w : i*w+w]
		}
		for i := range out {
			if i < len(source) {
				out[i] = append(out[i], source[i]...)
			} else {
				out[i] = append(out[i], elsewhere(first(len(source)), source, byte(i))...)
			}
		}
	}
	return out
}

// tabled are the rows of layers by as many thresholds.
func tabled(layers [][]byte, ks []int) []api.Row {
	var out []api.Row
	for place, layer := range layers {
		out = append(out, api.Row{K: ks[place], Len: len(layer)})
	}
	return out
}

// rightHead says whether a header is, word by word.
func rightHead(h api.Head) bool {
	is := 0 <= h.Stream && h.Stream <= 65535
	is = is && 1 <= h.Frame && h.Frame <= 2147483647
	is = is && 1 <= h.N && h.N <= 255
	is = is && 0 <= h.Index && h.Index <= h.N-1
	is = is && 0 <= h.Deadline && h.Deadline <= 2147483647
	is = is && 1 <= len(h.Rows) && len(h.Rows) <= 8
	for place, row := range h.Rows {
		is = is && 1 <= row.K && row.K <= h.N && 0 <= row.Len && row.Len <= 65535
		is = is && (place == 0 || h.Rows[place-1].K <= row.K)
	}
	return is
}

// like says whether two headers are the same, number by number, but for Index.
func like(a, b api.Head) bool {
	is := a.Stream == b.Stream && a.Frame == b.Frame && a.N == b.N && a.Deadline == b.Deadline && len(a.Rows) == len(b.Rows)
	for place := range min(len(a.Rows), len(b.Rows)) {
		is = is && a.Rows[place].K == b.Rows[place].K && a.Rows[place].Len == b.Rows[place].Len
	}
	return is
}

// seal puts the sum behind bytes.
func seal(b []byte) []byte {
	return binary.LittleEndian.AppendUint32(bytes.Clone(b), crc32.ChecksumIEEE(b))
}

// datagram is that of a header and a body, whatever they are.
func datagram(h api.Head, body []byte) []byte {
	order := binary.BigEndian
	out := order.AppendUint16([]byte{1}, uint16(h.Stream))
	out = order.AppendUint32(out, uint32(h.Frame))
	out = append(out, byte(h.Index), byte(h.N), byte(len(h.Rows)))
	out = order.AppendUint32(out, uint32(h.Deadline))
	for _, row := range h.Rows {
		out = order.AppendUint16(append(out, byte(row.K)), uint16(row.Len))
	}
	return seal(append(out, body...))
}

// parsed is what a datagram has, and the first error of it.
func parsed(b []byte) (api.Head, []byte, api.Errno) {
	cut := len(b) - 4
	if cut < 0 {
		return api.Head{}, nil, api.ErrShape
	}
	if crc32.ChecksumIEEE(b[:cut]) != binary.LittleEndian.Uint32(b[cut:]) {
		return api.Head{}, nil, api.ErrSum
	}
	if cut > 0 && b[0] != 1 {
		return api.Head{}, nil, api.ErrVersion
	}
	if cut < 14 || cut < 14+3*int(b[9]) {
		return api.Head{}, nil, api.ErrShape
	}
	order := binary.BigEndian
	h := api.Head{Stream: int(order.Uint16(b[1:])), Frame: int(order.Uint32(b[3:])), Index: int(b[7]), N: int(b[8]), Deadline: int(order.Uint32(b[10:]))}
	at := 14
	for range b[9] {
		h.Rows = append(h.Rows, api.Row{K: int(b[at]), Len: int(order.Uint16(b[at+1:]))})
		at += 3
	}
	if !rightHead(h) || cut-at != long(h.Rows) {
		return api.Head{}, nil, api.ErrShape
	}
	return h, b[at:cut], api.OK
}

// of are a frame's datagrams.
func of(s frame.Start, n int, layers [][]byte, ks []int) [][]byte {
	h := api.Head{Stream: s.Stream, Frame: s.Frame, N: n, Deadline: s.Deadline, Rows: tabled(layers, ks)}
	out := bodies(n, layers, ks)
	for h.Index = range out {
		out[h.Index] = datagram(h, out[h.Index])
	}
	return out
}

// had are the layers of bodies that stand at such indexes, by the first ones of them.
func had(table []api.Row, indexes []byte, held [][]byte) [][]byte {
	var layers [][]byte
	from := 0
	for _, row := range table {
		to := from + width(row.Len, row.K)
		if row.K > len(held) {
			break
		}
		stripes := make([][]byte, row.K)
		for i := range stripes {
			stripes[i] = held[i][from:to]
		}
		var whole []byte
		for i := range row.K {
			whole = append(whole, elsewhere(indexes[:row.K], stripes, byte(i))...)
		}
		layers = append(layers, whole[:row.Len])
		from = to
	}
	return layers
}

// read is what datagrams tell, and the first error of them.
func read(datagrams [][]byte) ([][]byte, api.Head, api.Errno) {
	if len(datagrams) == 0 {
		return nil, api.Head{}, api.ErrNone
	}
	var heads []api.Head
	var held [][]byte
	var indexes []byte
	for _, b := range datagrams {
		h, body, e := parsed(b)
		if e != api.OK {
			return nil, api.Head{}, e
		}
		heads, held, indexes = append(heads, h), append(held, body), append(indexes, byte(h.Index))
	}
	for _, a := range heads {
		if !like(a, heads[0]) {
			return nil, api.Head{}, api.ErrOdd
		}
	}
	var seen [256]int
	for _, index := range indexes {
		if seen[index]++; seen[index] > 1 {
			return nil, api.Head{}, api.ErrTwice
		}
	}
	return had(heads[0].Rows, indexes, held), heads[0], api.OK
}

// made asks for a frame's datagrams.
func made(t *testing.T, s frame.Start, n int, layers [][]byte, ks []int) [][]byte {
	t.Helper()
	want := of(s, n, layers, ks)
	if got, e := frame.With(s, n, layers, ks); e != api.OK || !same(got, want) {
		t.Errorf("With(%v, %d, %d layers, %v): %d datagrams, %d", s, n, len(layers), ks, len(got), e)
	}
	return want
}

// refused asks whether no datagrams are made.
func refused(t *testing.T, s frame.Start, n int, layers [][]byte, ks []int, what ...any) {
	t.Helper()
	if got, e := frame.With(s, n, layers, ks); e != api.ErrArg || got != nil {
		t.Errorf("%v: With(%v, %d, %d layers, %v): %d datagrams, %d", what, s, n, len(layers), ks, len(got), e)
	}
}

// asked asks what datagrams tell.
func asked(t *testing.T, datagrams ...[]byte) api.Errno {
	t.Helper()
	want, first, e := read(datagrams)
	got, h, f := frame.Read(datagrams...)
	if f != e || !same(got, want) || h.Index != first.Index || !like(h, first) {
		t.Errorf("Read(%d datagrams): %d layers, %v, %d, not %d layers, %v, %d", len(datagrams), len(got), h, f, len(want), first, e)
	}
	if f != api.OK && (len(got) > 0 || h.Rows != nil) {
		t.Errorf("Read(%d datagrams): %d, and %d layers, %v", len(datagrams), f, len(got), h)
	}
	return e
}

// fails asks whether datagrams tell an error.
func fails(t *testing.T, want api.Errno, datagrams [][]byte, what ...any) {
	t.Helper()
	if e := asked(t, datagrams...); e != want {
		t.Error(append(what, "the test's own datagrams are wrong", e, want)...)
	}
}

// at are those of a list that stand at such places.
func at(list [][]byte, places ...int) [][]byte {
	var out [][]byte
	for _, place := range places {
		out = append(out, list[place])
	}
	return out
}

// start is an ordinary one, of which each number is another one.
var start = frame.Start{Stream: 0x1234, Frame: 0x23456789, Deadline: 0x3456789A}

// bounds are those of the chapter's example.
var bounds = size.Bounds{N: 4, MTU: 64, Budget: 200}

// far are numbers that are below or above all that may be; among them such as are right ones when they are cut.
var far = []int{-1, -2, -127, -128, -255, -256, -65535, -65536, -1 << 31, 1 - 1<<31, 1 - 1<<32, 5 - 1<<32, -1 << 32, 1 << 31, 1<<31 + 1, 1<<31 + 64, 1<<32 - 1, 1 << 32, 1<<32 + 1, 1<<32 + 4, 1<<32 + 64, 1<<32 + 200, 1<<40 + 1, 1<<56 + 1, 1 << 62, math.MaxInt - 1, math.MaxInt, math.MinInt, math.MinInt + 1, math.MinInt + 4, math.MinInt + 64}

// part is one of a start's numbers, with some that it may be, and some that it may not be.
type part struct {
	name      string
	of        func(s *frame.Start) *int
	may, none []int
}

// parts are those of a start.
func parts() []part {
	return []part{
		{"Stream", func(s *frame.Start) *int { return &s.Stream }, []int{0, 1, 255, 256, 32768, 65534, 65535}, slices.Concat(far, []int{65536, 65537, 131071, 1 << 24, 1<<31 - 1})},
		{"Frame", func(s *frame.Start) *int { return &s.Frame }, []int{1, 2, 255, 256, 65535, 65536, 1 << 24, 1<<31 - 2, 1<<31 - 1}, slices.Concat(far, []int{0})},
		{"Deadline", func(s *frame.Start) *int { return &s.Deadline }, []int{0, 1, 2, 255, 256, 65535, 65536, 1 << 24, 1<<31 - 2, 1<<31 - 1}, far},
	}
}

// kind is a frame as it may be: so many datagrams, layers' lengths, thresholds.
type kind struct {
	n    int
	lens []int
	ks   []int
}

// kinds are ordinary ones, and such as have the least and the greatest numbers.
func kinds() []kind {
	return []kind{
		{3, []int{1, 2}, []int{1, 2}},
		{4, []int{40, 60}, []int{4, 4}},
		{1, []int{7}, []int{1}},
		{1, []int{0}, []int{1}},
		{2, []int{0, 0}, []int{1, 2}},
		{5, []int{10, 0, 23}, []int{2, 3, 5}},
		{7, []int{1, 2, 3, 4, 5, 6, 7, 8}, []int{1, 1, 2, 3, 4, 4, 6, 7}},
		{6, []int{100, 99, 98, 97, 0, 96, 95, 94}, []int{3, 3, 3, 3, 3, 3, 3, 3}},
		{9, []int{65535, 3}, []int{4, 9}},
		{255, []int{300, 2}, []int{100, 255}},
		{255, []int{65535}, []int{255}},
		{128, []int{127, 128, 129}, []int{1, 127, 128}},
	}
}

// layers are those of a kind, by a rule.
func (k kind) layers(seed int) [][]byte {
	var out [][]byte
	for place, long := range k.lens {
		out = append(out, some(long, seed*8+place))
	}
	return out
}

// few are those of kinds that have few datagrams, so that all choices of them may be asked.
func few() []kind { return slices.DeleteFunc(kinds(), func(k kind) bool { return k.n > 7 }) }
