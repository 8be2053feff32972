package head_test

import (
	"bytes"
	"encoding/binary"
	"hash/crc32"
	"math"
	"slices"
	"testing"

	"hourglass/api"
	"hourglass/head"
)

// What is asked of the package is held against these, which know none of the project's but api: the words of the chapters alone.

// some is so many bytes, by a rule.
func some(size, seed int) []byte {
	out, state := make([]byte, size), uint32(seed)*2654435761+12345
	for i := range out {
		state = state*1664525 + 1013904223
		out[i] = byte(state >> 24)
	}
	return out
}

// rows are of such thresholds and lengths, by turns.
func rows(numbers ...int) []api.Row {
	var out []api.Row
	for i := 0; i < len(numbers); i += 2 {
		out = append(out, api.Row{K: numbers[i], Len: numbers[i+1]})
	}
	return out
}

// width is the least one of which k times are not below the length.
func width(long, k int) int {
	w := long / k
	for w*k < long {
		w++
	}
	return w
}

// long is how long a body of a table is.
func long(table []api.Row) int {
	sum := 0
	for _, row := range table {
		sum += width(row.Len, row.K)
	}
	return sum
}

// right says whether a header is, word by word.
func right(h api.Head) bool {
	is := 0 <= h.Stream && h.Stream <= 65535
	is = is && 1 <= h.Frame && h.Frame <= 2147483647
	is = is && 1 <= h.N && h.N <= 255
	is = is && 0 <= h.Index && h.Index <= h.N-1
	is = is && 0 <= h.Deadline && h.Deadline <= 2147483647
	is = is && 1 <= len(h.Rows) && len(h.Rows) <= 8
	for place, row := range h.Rows {
		is = is && 1 <= row.K && row.K <= h.N && 0 <= row.Len && row.Len <= 65535
		is = is && (place == 0 || h.Rows[place-1].K <= row.K)
	}
	return is
}

// like says whether two headers are the same, number by number, but for Index.
func like(a, b api.Head) bool {
	is := a.Stream == b.Stream && a.Frame == b.Frame && a.N == b.N && a.Deadline == b.Deadline && len(a.Rows) == len(b.Rows)
	for place := range a.Rows {
		is = is && a.Rows[place].K == b.Rows[place].K && a.Rows[place].Len == b.Rows[place].Len
	}
	return is
}

// same says whether they are so in Index, too.
func same(a, b api.Head) bool { return like(a, b) && a.Index == b.Index }

// plain is what is sealed of a header and a body, whatever they are.
func plain(h api.Head, body []byte) []byte {
	order := binary.BigEndian
	out := order.AppendUint16([]byte{1}, uint16(h.Stream))
	out = order.AppendUint32(out, uint32(h.Frame))
	out = append(out, byte(h.Index), byte(h.N), byte(len(h.Rows)))
	out = order.AppendUint32(out, uint32(h.Deadline))
	for _, row := range h.Rows {
		out = order.AppendUint16(append(out, byte(row.K)), uint16(row.Len))
	}
	return append(out, body...)
}

// seal puts the sum behind bytes.
func seal(b []byte) []byte {
	return binary.LittleEndian.AppendUint32(bytes.Clone(b), crc32.ChecksumIEEE(b))
}

// inside is what sealed bytes have, and the first error of them.
func inside(b []byte) (api.Head, []byte, api.Errno) {
	cut := len(b) - 4
	if cut < 0 {
		return api.Head{}, nil, api.ErrShape
	}
	if crc32.ChecksumIEEE(b[:cut]) != binary.LittleEndian.Uint32(b[cut:]) {
		return api.Head{}, nil, api.ErrSum
	}
	if cut > 0 && b[0] != 1 {
		return api.Head{}, nil, api.ErrVersion
	}
	if cut < 14 || cut < 14+3*int(b[9]) {
		return api.Head{}, nil, api.ErrShape
	}
	order := binary.BigEndian
	h := api.Head{Stream: int(order.Uint16(b[1:])), Frame: int(order.Uint32(b[3:])), Index: int(b[7]), N: int(b[8]), Deadline: int(order.Uint32(b[10:]))}
	at := 14
	for range b[9] {
		h.Rows = append(h.Rows, api.Row{K: int(b[at]), Len: int(order.Uint16(b[at+1:]))})
		at += 3
	}
	if !right(h) || cut-at != long(h.Rows) {
		return api.Head{}, nil, api.ErrShape
	}
	return h, b[at:cut], api.OK
}

// judged asks whether a header is right.
func judged(t *testing.T, h api.Head) {
	t.Helper()
	if is := head.Right(h); is != right(h) {
		t.Errorf("Right(%v): %v", h, is)
	}
}

// held asks whether two headers are like each other.
func held(t *testing.T, a, b api.Head, want bool) {
	t.Helper()
	if head.Like(a, b) != want || head.Like(b, a) != want {
		t.Errorf("Like(%v, %v): not %v", a, b, want)
	}
}

// put asks for a datagram of what makes one, and for what it has.
func put(t *testing.T, h api.Head, body []byte) []byte {
	t.Helper()
	b, e := head.Put(h, body)
	if want := seal(plain(h, body)); e != api.OK || !bytes.Equal(b, want) {
		t.Errorf("Put(%v, %d bytes): %d bytes, %d", h, len(body), len(b), e)
		return want
	}
	parsed(t, b)
	return b
}

// refused asks whether no datagram is made.
func refused(t *testing.T, h api.Head, body []byte) {
	t.Helper()
	if b, e := head.Put(h, body); e != api.ErrArg || b != nil {
		t.Errorf("Put(%v, %d bytes): %d bytes, %d", h, len(body), len(b), e)
	}
}

// parsed asks what bytes have; if they have a datagram's, just these bytes are made of them.
func parsed(t *testing.T, b []byte) api.Errno {
	t.Helper()
	want, inner, f := inside(b)
	h, body, e := head.Parse(b)
	if e != f || !same(h, want) || !bytes.Equal(body, inner) {
		t.Errorf("Parse(%d bytes): %v, %d bytes, %d, not %v, %d bytes, %d", len(b), h, len(body), e, want, len(inner), f)
	}
	if e != api.OK && (h.Rows != nil || body != nil) {
		t.Errorf("Parse(%d bytes): %d, and %v, %v", len(b), e, h.Rows, body)
	}
	if e == api.OK {
		if again, g := head.Put(h, body); g != api.OK || !bytes.Equal(again, b) {
			t.Errorf("Parse(%d bytes): of what it tells others are put: %v, %d", len(b), h, g)
		}
	}
	return f
}

// fails asks whether bytes are none of a datagram, by an error.
func fails(t *testing.T, b []byte, want api.Errno, what ...any) {
	t.Helper()
	if e := parsed(t, b); e != want {
		t.Error(append(what, "the test's own bytes are wrong", e, want)...)
	}
}

// good is an ordinary header, of which each number is another one.
func good() api.Head {
	return api.Head{Stream: 0x1234, Frame: 0x23456789, Index: 5, N: 9, Deadline: 0x3456789A, Rows: rows(2, 7, 3, 300, 3, 0, 8, 2)}
}

// heads are right ones: ordinary ones, and such as have the least and the greatest numbers.
func heads() []api.Head {
	return []api.Head{
		good(),
		{Stream: 1, Frame: 2, Index: 0, N: 1, Deadline: 3, Rows: rows(1, 1)},
		{Stream: 0, Frame: 1, Index: 0, N: 1, Deadline: 0, Rows: rows(1, 0)},
		{Stream: 65535, Frame: 1<<31 - 1, Index: 254, N: 255, Deadline: 1<<31 - 1, Rows: rows(255, 65535)},
		{Stream: 65535, Frame: 1<<31 - 1, Index: 254, N: 255, Deadline: 1<<31 - 1, Rows: slices.Repeat(rows(255, 65535), 8)},
		{Stream: 256, Frame: 256, Index: 1, N: 2, Deadline: 256, Rows: rows(1, 65535, 2, 65535)},
		{Stream: 255, Frame: 255, Index: 2, N: 3, Deadline: 255, Rows: rows(1, 255, 2, 256, 3, 257)},
		{Stream: 3, Frame: 1 << 30, Index: 127, N: 255, Deadline: 1, Rows: rows(1, 8, 2, 7, 3, 6, 4, 5, 5, 4, 6, 3, 7, 2, 8, 1)},
		{Stream: 4, Frame: 1 << 16, Index: 128, N: 129, Deadline: 1 << 24, Rows: rows(128, 0, 128, 0, 129, 0)},
		{Stream: 5, Frame: 1 << 24, Index: 3, N: 4, Deadline: 1 << 16, Rows: rows(1, 0, 1, 0, 1, 0, 1, 0, 1, 0, 1, 0, 1, 0, 1, 0)},
		{Stream: 6, Frame: 7, Index: 0, N: 2, Deadline: 1000, Rows: rows(1, 65535, 1, 65535, 1, 65535, 1, 65535, 1, 65535, 1, 65535, 1, 65535, 1, 65535)},
		{Stream: 0, Frame: 1, Index: 0, N: 255, Deadline: 0, Rows: rows(1, 0, 1, 1, 255, 65535)},
	}
}

// small are those of heads whose datagrams are short, so that all may be asked of each.
func small() []api.Head {
	return slices.DeleteFunc(heads(), func(h api.Head) bool { return long(h.Rows) > 1000 })
}

// whole is a body of a header's.
func whole(h api.Head, seed int) []byte { return some(long(h.Rows), seed) }

// far are numbers that are below or above all that may be; among them such as are right ones when they are cut.
var far = []int{-1, -2, -127, -128, -255, -256, -65535, -65536, -1 << 31, 1 - 1<<31, 1 - 1<<32, 5 - 1<<32, -1 << 32, 1 << 31, 1<<31 + 1, 1<<32 - 1, 1 << 32, 1<<32 + 1, 1<<32 + 5, 1<<32 + 9, 1<<32 + 255, 1<<40 + 1, 1<<56 + 1, 1 << 62, math.MaxInt - 1, math.MaxInt, math.MinInt, math.MinInt + 1, math.MinInt + 5}

// part is one of a header's numbers, with some that it may be, and some that it may not be, whatever the others are.
type part struct {
	name      string
	of        func(h *api.Head) *int
	may, none []int
}

// parts are those of a header but those of its rows.
func parts() []part {
	return []part{
		{"Stream", func(h *api.Head) *int { return &h.Stream }, []int{0, 1, 2, 255, 256, 257, 32767, 32768, 65534, 65535}, []int{65536, 65537, 131071, 1 << 24, 1<<31 - 1}},
		{"Frame", func(h *api.Head) *int { return &h.Frame }, []int{1, 2, 255, 256, 65535, 65536, 1<<24 - 1, 1 << 24, 1 << 30, 1<<31 - 2, 1<<31 - 1}, []int{0}},
		{"Index", func(h *api.Head) *int { return &h.Index }, []int{0}, []int{255, 256, 257, 65536, 1<<31 - 1}},
		{"N", func(h *api.Head) *int { return &h.N }, []int{255}, []int{0, 256, 257, 511, 512, 65535, 65536, 65537, 1<<31 - 1}},
		{"Deadline", func(h *api.Head) *int { return &h.Deadline }, []int{0, 1, 2, 255, 256, 65535, 65536, 1<<24 - 1, 1 << 24, 1 << 30, 1<<31 - 2, 1<<31 - 1}, nil},
	}
}

// copied is a header whose rows may be changed.
func copied(h api.Head) api.Head {
	h.Rows = slices.Clone(h.Rows)
	return h
}
