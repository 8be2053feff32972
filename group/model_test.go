package group_test

import (
	"bytes"
	"math"
	"slices"
	"testing"

	"hourglass/api"
	"hourglass/group"
)

// What is asked of the package is held against these, which know none of the layers below, but the words of the chapters alone.

// some is so many bytes, by a rule; none of them is 0, so that noughts are known from them.
func some(size, seed int) []byte {
	out, state := make([]byte, size), uint32(seed)*2654435761+12345
	for i := range out {
		state = state*1664525 + 1013904223
		out[i] = byte(state>>24)%255 + 1
	}
	return out
}

// order is the numbers below n, in an order by a rule.
func order(n, seed int) []int {
	out := make([]int, n)
	for i := range out {
		out[i] = i
	}
	for i, dice := range some(n, seed) {
		other := (int(dice) + seed) % n
		out[i], out[other] = out[other], out[i]
	}
	return out
}

// rows are of such thresholds and lengths, by turns.
func rows(numbers ...int) []api.Row {
	var out []api.Row
	for i := 0; i < len(numbers); i += 2 {
		out = append(out, api.Row{K: numbers[i], Len: numbers[i+1]})
	}
	return out
}

// same says whether lists have the same rows of bytes.
func same(a, b [][]byte) bool { return slices.EqualFunc(a, b, bytes.Equal) }

// products are those of all bytes.
var products = func() (all [256][256]byte) {
	for a := range 256 {
		for b := range 256 {
			sum, step := 0, a
			for bit := range 8 {
				if b>>bit&1 == 1 {
					sum ^= step
				}
				if step <<= 1; step > 255 {
					step ^= 0x11D
				}
			}
			all[a][b] = byte(sum)
		}
	}
	return all
}()

// inverses are those of all bytes but 0.
var inverses = func() (all [256]byte) {
	for a := range 256 {
		all[a] = byte(max(0, bytes.IndexByte(products[a][:], 1)))
	}
	return all
}()

// weight is by how much the value at one point counts, of those at all points, for the value elsewhere.
func weight(points []int, place, at int) byte {
	over, under := byte(1), byte(1)
	for other, point := range points {
		if other != place {
			over = products[over][byte(at^point)]
			under = products[under][byte(points[place]^point)]
		}
	}
	return products[over][inverses[under]]
}

// elsewhere is the row at a byte of the polynomials that have such rows at such points.
func elsewhere(points []int, values [][]byte, at int) []byte {
	out := make([]byte, len(values[0]))
	for place, row := range values {
		by := &products[weight(points, place, at)]
		for i, value := range row {
			out[i] ^= by[value]
		}
	}
	return out
}

// width is the least one of which k times are not below the length.
func width(long, k int) int {
	w := long / k
	for w*k < long {
		w++
	}
	return w
}

// long is how long a body of a table is.
func long(table []api.Row) int {
	sum := 0
	for _, row := range table {
		sum += width(row.Len, row.K)
	}
	return sum
}

// bodies are those of a table's layers.
func bodies(n int, table []api.Row, layers [][]byte) [][]byte {
	out := make([][]byte, n)
	for place, row := range table {
		w := width(row.Len, row.K)
		whole := append(bytes.Clone(layers[place]), make([]byte, w*row.K-row.Len)...)
		source, points := make([][]byte, row.K), make([]int, row.K)
		for i := range source {
			source[i], points[i] = whole[i*w:i*w+w], i
		}
		for i := range out {
			if i < row.K {
				out[i] = append(out[i], source[i]...)
			} else {
				out[i] = append(out[i], elsewhere(points, source, i)...)
			}
		}
	}
	return out
}

// noise is n rows of bytes, each as long as a body, that are of no layers.
func noise(n int, table []api.Row, seed int) [][]byte {
	out := make([][]byte, n)
	for i := range out {
		out[i] = some(long(table), seed+3*i)
	}
	return out
}

// right says whether a header is, word by word.
func right(h api.Head) bool {
	is := 0 <= h.Stream && h.Stream <= 65535
	is = is && 1 <= h.Frame && h.Frame <= 2147483647
	is = is && 1 <= h.N && h.N <= 255
	is = is && 0 <= h.Index && h.Index <= h.N-1
	is = is && 0 <= h.Deadline && h.Deadline <= 2147483647
	is = is && 1 <= len(h.Rows) && len(h.Rows) <= 8
	for place, row := range h.Rows {
		is = is && 1 <= row.K && row.K <= h.N && 0 <= row.Len && row.Len <= 65535
		is = is && (place == 0 || h.Rows[place-1].K <= row.K)
	}
	return is
}

// like says whether two headers are the same, number by number, but for Index.
func like(a, b api.Head) bool {
	is := a.Stream == b.Stream && a.Frame == b.Frame && a.N == b.N && a.Deadline == b.Deadline && len(a.Rows) == len(b.Rows)
	for place := range min(len(a.Rows), len(b.Rows)) {
		is = is && a.Rows[place].K == b.Rows[place].K && a.Rows[place].Len == b.Rows[place].Len
	}
	return is
}

// model is what a group is, word by word: a row of bodies by their indexes, with none where none came.
type model struct {
	head  api.Head
	there [256]bool
	body  [256][]byte
}

// take is what Take does.
func (m *model) take(h api.Head, body []byte) api.Errno {
	if !right(h) || !like(h, m.head) {
		return api.ErrOdd
	}
	if len(body) != long(m.head.Rows) {
		return api.ErrArg
	}
	if m.there[h.Index] {
		return api.ErrTwice
	}
	m.there[h.Index], m.body[h.Index] = true, bytes.Clone(body)
	return api.OK
}

// indexes are those that came, rising.
func (m *model) indexes() []int {
	var out []int
	for index, there := range m.there {
		if there {
			out = append(out, index)
		}
	}
	return out
}

// bytes is how many bytes the bodies have, added one by one.
func (m *model) bytes() int {
	sum := 0
	for _, body := range m.body {
		sum += len(body)
	}
	return sum
}

// ready is how many rows have a threshold that is at most how many came.
func (m *model) ready() int {
	out := 0
	for _, row := range m.head.Rows {
		if row.K <= len(m.indexes()) {
			out++
		}
	}
	return out
}

// layers are those that can be had, each of the lowest indexes that are enough.
func (m *model) layers() [][]byte {
	var out [][]byte
	from := 0
	for _, row := range m.head.Rows[:m.ready()] {
		to := from + width(row.Len, row.K)
		points := m.indexes()[:row.K]
		var stripes [][]byte
		for _, index := range points {
			stripes = append(stripes, m.body[index][from:to])
		}
		var whole []byte
		for at := range row.K {
			whole = append(whole, elsewhere(points, stripes, at)...)
		}
		out = append(out, whole[:row.Len])
		from = to
	}
	return out
}

// pair is a group, and what it is to be.
type pair struct {
	*group.Group
	model *model
	t     *testing.T
}

// paired is a group of a right header.
func paired(t *testing.T, h api.Head) pair {
	t.Helper()
	g, e := group.New(h)
	if e != api.OK || g == nil {
		t.Fatalf("New(%v): %v, %d", h, g != nil, e)
	}
	h.Index, h.Rows = 0, slices.Clone(h.Rows)
	return pair{g, &model{head: h}, t}
}

// take asks Take, and all that does not need a layer, and answers what it told.
func (p pair) take(h api.Head, body []byte) api.Errno {
	p.t.Helper()
	want := p.model.take(h, body)
	if e := p.Take(h, body); e != want {
		p.t.Fatalf("Take(%v, %d bytes) of %v, that holds %v: %d, not %d", h, len(body), p.model.head, p.model.indexes(), e, want)
	}
	p.counts()
	return want
}

// takes asks Take of an index, which is to be held.
func (p pair) takes(index int, body []byte) {
	p.t.Helper()
	h := p.model.head
	h.Index = index
	if e := p.take(h, body); e != api.OK {
		p.t.Fatal("the test's own body is wrong", h, len(body), e)
	}
}

// fails asks whether Take tells an error, and turns nothing.
func (p pair) fails(want api.Errno, h api.Head, body []byte, what ...any) {
	p.t.Helper()
	if e := p.take(h, body); e != want {
		p.t.Error(append(what, "the test's own header or body is wrong", h, len(body), e, want)...)
	}
}

// counts asks all but the layers.
func (p pair) counts() {
	p.t.Helper()
	m := p.model
	came := m.indexes()
	if h := p.Head(); !like(h, m.head) || h.Index != 0 {
		p.t.Error("Head:", h, m.head)
	}
	if p.Came() != len(came) || p.Bytes() != m.bytes() || !slices.Equal(p.Indexes(), came) {
		p.t.Errorf("%v, %v: came %d, %d bytes, %v", m.head, came, p.Came(), p.Bytes(), p.Indexes())
	}
	whole := len(came) >= m.head.Rows[len(m.head.Rows)-1].K
	if p.Ready() != m.ready() || p.Whole() != whole || whole != (p.Ready() == len(m.head.Rows)) {
		p.t.Errorf("%v, %v: ready %d, whole %v", m.head, came, p.Ready(), p.Whole())
	}
}

// tells asks whether just these layers are told.
func (p pair) tells(want [][]byte) {
	p.t.Helper()
	if got := p.Layers(); !same(got, want) || len(got) != p.Ready() {
		p.t.Errorf("%v, %v: %d layers, not %d, ready %d", p.model.head, p.model.indexes(), len(got), len(want), p.Ready())
	}
}

// agrees asks all.
func (p pair) agrees() {
	p.t.Helper()
	p.counts()
	p.tells(p.model.layers())
}

// refused asks whether there is no group of a header.
func refused(t *testing.T, h api.Head, what ...any) {
	t.Helper()
	if right(h) {
		t.Error("the test's own header is right", h)
	}
	if g, e := group.New(h); e != api.ErrArg || g != nil {
		t.Error(append(what, h, g != nil, e)...)
	}
}

// judged asks whether there is a group of a header, just if it is right.
func judged(t *testing.T, h api.Head) {
	t.Helper()
	if right(h) {
		paired(t, h).agrees()
	} else {
		refused(t, h)
	}
}

// example is the chapter's header.
func example(index int) api.Head {
	return api.Head{Stream: 4, Frame: 6, Index: index, N: 3, Deadline: 9, Rows: rows(1, 1, 2, 2)}
}

// good is an ordinary header, of which each number is another one.
func good() api.Head {
	return api.Head{Stream: 0x1234, Frame: 0x23456789, Index: 5, N: 9, Deadline: 0x3456789A, Rows: rows(2, 7, 3, 30, 3, 0, 8, 20)}
}

// heads are right ones: ordinary ones, and such as have the least and the greatest numbers.
func heads() []api.Head {
	return []api.Head{
		example(2),
		good(),
		{Stream: 1, Frame: 2, Index: 0, N: 1, Deadline: 3, Rows: rows(1, 1)},
		{Stream: 0, Frame: 1, Index: 0, N: 1, Deadline: 0, Rows: rows(1, 0)},
		{Stream: 65535, Frame: 1<<31 - 1, Index: 254, N: 255, Deadline: 1<<31 - 1, Rows: rows(255, 65535)},
		{Stream: 65535, Frame: 1<<31 - 1, Index: 254, N: 255, Deadline: 1<<31 - 1, Rows: slices.Repeat(rows(255, 65535), 8)},
		{Stream: 256, Frame: 256, Index: 1, N: 2, Deadline: 256, Rows: rows(1, 65535, 2, 65535)},
		{Stream: 255, Frame: 255, Index: 2, N: 3, Deadline: 255, Rows: rows(1, 255, 2, 256, 3, 257)},
		{Stream: 3, Frame: 1 << 30, Index: 127, N: 255, Deadline: 1, Rows: rows(1, 8, 2, 7, 3, 6, 4, 5, 5, 4, 6, 3, 7, 2, 8, 1)},
		{Stream: 4, Frame: 1 << 16, Index: 128, N: 129, Deadline: 1 << 24, Rows: rows(128, 0, 128, 0, 129, 0)},
		{Stream: 5, Frame: 1 << 24, Index: 3, N: 4, Deadline: 1 << 16, Rows: slices.Repeat(rows(1, 0), 8)},
		{Stream: 6, Frame: 7, Index: 0, N: 2, Deadline: 1000, Rows: slices.Repeat(rows(1, 65535), 8)},
		{Stream: 0, Frame: 1, Index: 0, N: 255, Deadline: 0, Rows: rows(1, 0, 1, 1, 255, 65535)},
		{Stream: 7, Frame: 8, Index: 6, N: 7, Deadline: 9, Rows: rows(2, 11, 2, 12, 4, 13, 4, 0, 6, 15)},
	}
}

// few are those of heads that have few datagrams, so that all choices of them may be asked.
func few() []api.Head {
	return slices.DeleteFunc(heads(), func(h api.Head) bool { return h.N > 9 || long(h.Rows) > 1000 })
}

// layered are a header's layers, by a rule.
func layered(h api.Head, seed int) [][]byte {
	var out [][]byte
	for place, row := range h.Rows {
		out = append(out, some(row.Len, seed*8+place))
	}
	return out
}

// far are numbers that are below or above all that may be; among them such as are right ones when they are cut.
var far = []int{-1, -2, -127, -128, -255, -256, -65535, -65536, -1 << 31, 1 - 1<<31, 1 - 1<<32, 5 - 1<<32, -1 << 32, 1 << 31, 1<<31 + 1, 1<<32 - 1, 1 << 32, 1<<32 + 1, 1<<32 + 5, 1<<32 + 9, 1<<32 + 255, 1<<40 + 1, 1<<56 + 1, 1 << 62, math.MaxInt - 1, math.MaxInt, math.MinInt, math.MinInt + 1, math.MinInt + 5}

// part is one of a header's numbers, with some that it may be, and some that it may not be, whatever the others are.
type part struct {
	name      string
	of        func(h *api.Head) *int
	may, none []int
}

// parts are those of a header but those of its rows.
func parts() []part {
	return []part{
		{"Stream", func(h *api.Head) *int { return &h.Stream }, []int{0, 1, 2, 255, 256, 257, 32767, 32768, 65534, 65535}, slices.Concat(far, []int{65536, 65537, 131071, 1 << 24, 1<<31 - 1})},
		{"Frame", func(h *api.Head) *int { return &h.Frame }, []int{1, 2, 255, 256, 65535, 65536, 1<<24 - 1, 1 << 24, 1 << 30, 1<<31 - 2, 1<<31 - 1}, slices.Concat(far, []int{0})},
		{"Index", func(h *api.Head) *int { return &h.Index }, []int{0}, slices.Concat(far, []int{255, 256, 257, 65536, 1<<31 - 1})},
		{"N", func(h *api.Head) *int { return &h.N }, []int{255}, slices.Concat(far, []int{0, 256, 257, 511, 512, 65535, 65536, 65537, 1<<31 - 1})},
		{"Deadline", func(h *api.Head) *int { return &h.Deadline }, []int{0, 1, 2, 255, 256, 65535, 65536, 1<<24 - 1, 1 << 24, 1 << 30, 1<<31 - 2, 1<<31 - 1}, far},
	}
}

// copied is a header whose rows may be changed.
func copied(h api.Head) api.Head {
	h.Rows = slices.Clone(h.Rows)
	return h
}
