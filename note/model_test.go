package note_test

import (
	"bytes"
	"encoding/binary"
	"hash/crc32"
	"math"
	"slices"
	"testing"

	"hourglass/api"
	"hourglass/note"
)

// What is asked of the package is held against these, which know none of the project's but api: the words of the chapters alone.

// some is so many bytes, by a rule.
func some(size, seed int) []byte {
	out, state := make([]byte, size), uint32(seed)*2654435761+12345
	for i := range out {
		state = state*1664525 + 1013904223
		out[i] = byte(state >> 24)
	}
	return out
}

// counts are of such numbers, by turns how many came, and how many times.
func counts(numbers ...int) []api.Count {
	var out []api.Count
	for i := 0; i < len(numbers); i += 2 {
		out = append(out, api.Count{Came: numbers[i], Times: numbers[i+1]})
	}
	return out
}

// steps are counts of each number from the first to the last one.
func steps(first, last int, times func(came int) int) []api.Count {
	var out []api.Count
	for came := first; came <= last; came++ {
		out = append(out, api.Count{Came: came, Times: times(came)})
	}
	return out
}

// right says whether a report is, word by word.
func right(n api.Note) bool {
	is := 0 <= n.Stream && n.Stream <= 65535
	is = is && 1 <= n.Seq && n.Seq <= 2147483647
	is = is && 1 <= n.N && n.N <= 255
	for place, c := range n.Counts {
		is = is && 1 <= c.Came && c.Came <= n.N && 1 <= c.Times && c.Times <= 65535
		is = is && (place == 0 || n.Counts[place-1].Came < c.Came)
	}
	return is
}

// total is the sum of a report.
func total(n api.Note) int {
	sum := 0
	for _, c := range n.Counts {
		sum += c.Times
	}
	if !right(n) {
		return 0
	}
	return sum
}

// count is how often so many came.
func count(n api.Note, came int) int {
	if right(n) {
		for _, c := range n.Counts {
			if c.Came == came {
				return c.Times
			}
		}
	}
	return 0
}

// same says whether two reports are the same, number by number.
func same(a, b api.Note) bool {
	is := a.Stream == b.Stream && a.Seq == b.Seq && a.N == b.N && len(a.Counts) == len(b.Counts)
	for place := range a.Counts {
		is = is && a.Counts[place].Came == b.Counts[place].Came && a.Counts[place].Times == b.Counts[place].Times
	}
	return is
}

// plain is what is sealed of a report, whatever it is.
func plain(n api.Note) []byte {
	order := binary.BigEndian
	out := order.AppendUint16([]byte{2}, uint16(n.Stream))
	out = order.AppendUint32(out, uint32(n.Seq))
	out = append(out, byte(n.N), byte(len(n.Counts)))
	for _, c := range n.Counts {
		out = order.AppendUint16(append(out, byte(c.Came)), uint16(c.Times))
	}
	return out
}

// seal puts the sum behind bytes.
func seal(b []byte) []byte {
	return binary.LittleEndian.AppendUint32(bytes.Clone(b), crc32.ChecksumIEEE(b))
}

// inside is what sealed bytes have, and the first error of them.
func inside(b []byte) (api.Note, api.Errno) {
	cut := len(b) - 4
	if cut < 0 {
		return api.Note{}, api.ErrShape
	}
	if crc32.ChecksumIEEE(b[:cut]) != binary.LittleEndian.Uint32(b[cut:]) {
		return api.Note{}, api.ErrSum
	}
	if cut > 0 && b[0] != 2 {
		return api.Note{}, api.ErrVersion
	}
	if cut < 9 || cut != 9+3*int(b[8]) {
		return api.Note{}, api.ErrShape
	}
	order := binary.BigEndian
	n := api.Note{Stream: int(order.Uint16(b[1:])), Seq: int(order.Uint32(b[3:])), N: int(b[7])}
	for at := 9; at < cut; at += 3 {
		n.Counts = append(n.Counts, api.Count{Came: int(b[at]), Times: int(order.Uint16(b[at+1:]))})
	}
	if !right(n) {
		return api.Note{}, api.ErrShape
	}
	return n, api.OK
}

// put asks for a datagram of a right report, for what it has, and for what it tells.
func put(t *testing.T, n api.Note) []byte {
	t.Helper()
	b, e := note.Put(n)
	if want := seal(plain(n)); e != api.OK || !bytes.Equal(b, want) || !note.Right(n) {
		t.Errorf("Put(%v): %v, %d", n, b, e)
		return want
	}
	parsed(t, b)
	counted(t, n)
	return b
}

// refused asks whether no datagram is made of what is no right report, and nothing told of it.
func refused(t *testing.T, n api.Note) {
	t.Helper()
	if b, e := note.Put(n); e != api.ErrArg || b != nil || note.Right(n) {
		t.Errorf("Put(%v): %v, %d; Right: %v", n, b, e, note.Right(n))
	}
	counted(t, n)
}

// judged asks of a report that which fits.
func judged(t *testing.T, n api.Note) {
	t.Helper()
	if right(n) {
		put(t, n)
	} else {
		refused(t, n)
	}
}

// counted asks for the sum of a report, and for some counts of it.
func counted(t *testing.T, n api.Note) {
	t.Helper()
	if is := note.Sum(n); is != total(n) {
		t.Errorf("Sum(%v): %d, not %d", n, is, total(n))
	}
	asked := []int{math.MinInt, -256, -1, 0, 1, 2, n.N - 1, n.N, n.N + 1, 254, 255, 256, 257, 1<<32 + 1, math.MaxInt}
	for _, c := range n.Counts[:min(len(n.Counts), 300)] {
		asked = append(asked, c.Came, c.Came+1, c.Times)
	}
	for _, came := range asked {
		if is := note.Count(n, came); is != count(n, came) {
			t.Errorf("Count(%v, %d): %d, not %d", n, came, is, count(n, came))
		}
	}
}

// parsed asks what bytes have; if they have a report, just these bytes are made of it.
func parsed(t *testing.T, b []byte) api.Errno {
	t.Helper()
	want, f := inside(b)
	n, e := note.Parse(b)
	if e != f || !same(n, want) {
		t.Errorf("Parse(%v): %v, %d, not %v, %d", b, n, e, want, f)
	}
	if e != api.OK && n.Counts != nil {
		t.Errorf("Parse(%v): %d, and %v", b, e, n.Counts)
	}
	if e == api.OK {
		if again, g := note.Put(n); g != api.OK || !bytes.Equal(again, b) || !note.Right(n) {
			t.Errorf("Parse(%v): of what it tells others are put: %v, %d", b, n, g)
		}
	}
	return f
}

// fails asks whether bytes have a report, or what is wrong with them.
func fails(t *testing.T, b []byte, want api.Errno, what ...any) {
	t.Helper()
	if e := parsed(t, b); e != want {
		t.Error(append(what, "the test's own bytes are wrong", e, want)...)
	}
}

// good is an ordinary report, of which each number is another one.
func good() api.Note {
	return api.Note{Stream: 0x1234, Seq: 0x23456789, N: 9, Counts: counts(2, 0xABCD, 3, 300, 5, 1, 8, 7)}
}

// notes are right reports: ordinary ones, and such as have the least and the greatest numbers.
func notes() []api.Note {
	one := func(int) int { return 1 }
	most := func(int) int { return 65535 }
	same := func(came int) int { return came }
	return []api.Note{
		good(),
		{Stream: 1, Seq: 2, N: 3, Counts: counts(2, 1, 3, 5)},
		{Stream: 0, Seq: 1, N: 1},
		{Stream: 0, Seq: 1, N: 1, Counts: counts(1, 1)},
		{Stream: 65535, Seq: 1<<31 - 1, N: 255},
		{Stream: 65535, Seq: 1<<31 - 1, N: 255, Counts: counts(255, 65535)},
		{Stream: 65535, Seq: 1<<31 - 1, N: 255, Counts: steps(1, 255, most)},
		{Stream: 0, Seq: 1, N: 255, Counts: steps(1, 255, one)},
		{Stream: 2, Seq: 3, N: 255, Counts: steps(1, 255, same)},
		{Stream: 3, Seq: 4, N: 255, Counts: steps(1, 254, same)},
		{Stream: 4, Seq: 5, N: 255, Counts: steps(2, 255, same)},
		{Stream: 256, Seq: 256, N: 2, Counts: counts(1, 256, 2, 255)},
		{Stream: 255, Seq: 255, N: 3, Counts: counts(1, 65535, 3, 65535)},
		{Stream: 5, Seq: 1 << 30, N: 128, Counts: counts(1, 7, 127, 9, 128, 11)},
		{Stream: 6, Seq: 1 << 16, N: 129, Counts: counts(128, 1, 129, 2)},
		{Stream: 7, Seq: 1 << 24, N: 8, Counts: steps(1, 8, one)},
	}
}

// small are those of notes whose datagrams are short, so that all may be asked of each.
func small() []api.Note {
	return slices.DeleteFunc(notes(), func(n api.Note) bool { return len(n.Counts) > 100 })
}

// copied is a report whose counts may be changed.
func copied(n api.Note) api.Note {
	n.Counts = slices.Clone(n.Counts)
	return n
}

// far are numbers that are below or above all that may be; among them such as are right ones when they are cut.
var far = []int{-1, -2, -127, -128, -255, -256, -65535, -65536, -1 << 31, 1 - 1<<31, 1 - 1<<32, 5 - 1<<32, -1 << 32, 1 << 31, 1<<31 + 1, 1<<32 - 1, 1 << 32, 1<<32 + 1, 1<<32 + 5, 1<<32 + 9, 1<<32 + 255, 1<<40 + 1, 1<<56 + 1, 1 << 62, math.MaxInt - 1, math.MaxInt, math.MinInt, math.MinInt + 1, math.MinInt + 5}

// part is one of a report's numbers, with some that it may be, and some that it may not be, whatever the others are.
type part struct {
	name      string
	of        func(n *api.Note) *int
	may, none []int
}

// parts are those of a report but those of its counts.
func parts() []part {
	return []part{
		{"Stream", func(n *api.Note) *int { return &n.Stream }, []int{0, 1, 2, 255, 256, 257, 32767, 32768, 65534, 65535}, []int{65536, 65537, 131071, 1 << 24, 1<<31 - 1}},
		{"Seq", func(n *api.Note) *int { return &n.Seq }, []int{1, 2, 255, 256, 65535, 65536, 1<<24 - 1, 1 << 24, 1 << 30, 1<<31 - 2, 1<<31 - 1}, []int{0}},
		{"N", func(n *api.Note) *int { return &n.N }, []int{255}, []int{0, 256, 257, 511, 512, 65535, 65536, 65537, 1<<31 - 1}},
	}
}
