package note_test

import (
	"bytes"
	"slices"
	"testing"

	"hourglass/api"
	"hourglass/note"
)

// P15.3

func TestParseOfFewBytes(t *testing.T) {
	for size := range 4 {
		for _, b := range [][]byte{make([]byte, size), some(size, 1), bytes.Repeat([]byte{2}, size), bytes.Repeat([]byte{0xFF}, size), some(9, 2)[9-size:]} {
			fails(t, b, api.ErrShape, size)
		}
	}
	fails(t, nil, api.ErrShape)
	fails(t, []byte{0, 0, 0, 0}, api.ErrShape, "nothing, sealed")
	fails(t, seal(nil), api.ErrShape, "nothing, sealed")
	fails(t, []byte{0, 0, 0, 1}, api.ErrSum)
	fails(t, []byte{2, 0, 0, 0}, api.ErrSum)
	fails(t, some(4, 1), api.ErrSum)
}

func TestParseOfOneByte(t *testing.T) {
	for b := range 256 {
		want := api.ErrVersion
		if b == 2 {
			want = api.ErrShape
		}
		fails(t, seal([]byte{byte(b)}), want, b)
	}
}

func TestParseOfEachVersion(t *testing.T) {
	for _, n := range notes() {
		b := plain(n)
		for version := range 256 {
			b[0] = byte(version)
			want := api.ErrVersion
			if version == 2 {
				want = api.OK
			}
			fails(t, seal(b), want, version)
			fails(t, b, api.ErrSum, version, "not sealed")
			if version != 2 { // the version counts ahead of what stands behind it
				fails(t, seal(b[:len(b)-1]), want, version, "cut off")
				fails(t, seal(append(bytes.Clone(b), 0)), want, version, "longer")
				fails(t, seal(slices.Concat(b[:7], []byte{0}, b[8:])), want, version, "of an N of 0")
			}
		}
	}
}

// A datagram of data is of another sort.
func TestParseOfADatagramOfData(t *testing.T) {
	fails(t, seal([]byte{1, 0, 1, 0, 0, 0, 2, 0, 1, 1, 0, 0, 0, 3, 1, 0, 1, 7}), api.ErrVersion)
}

// The errors come in the chapter's order: each of these has all the faults of those behind it, as far as it can.
func TestParseInOrder(t *testing.T) {
	fails(t, []byte{1, 0, 0}, api.ErrShape, "too few bytes, which are not sealed, of another version")
	fails(t, []byte{1, 0, 0, 0, 0}, api.ErrSum, "not sealed, of another version, and cut off")
	fails(t, slices.Concat([]byte{1}, seal([]byte{2})), api.ErrSum, "not sealed, of another version, and cut off")
	fails(t, []byte{0, 0, 0, 0}, api.ErrShape, "nothing")
	fails(t, seal([]byte{1}), api.ErrVersion, "of another version, and cut off")
	fails(t, seal([]byte{0, 2}), api.ErrVersion, "of another version, and cut off")
	fails(t, seal([]byte{2}), api.ErrShape, "cut off")
	if n, e := note.Parse(seal([]byte{3, 1, 1})); e != 11 || !same(n, api.Note{}) {
		t.Error(n, e)
	}
}

func TestParseOfBytesCutOff(t *testing.T) {
	for _, n := range notes() {
		b := plain(n)
		for size := range b {
			fails(t, seal(b[:size]), api.ErrShape, size, "of", len(b))
		}
		sealed := seal(b)
		fails(t, sealed, api.OK)
		for size := 4; size < len(sealed); size++ {
			fails(t, sealed[:size], api.ErrSum, size, "of", len(sealed), "not sealed again")
		}
		for from := 1; from < len(b); from++ {
			parsed(t, seal(b[from:]))
			parsed(t, sealed[from:])
		}
	}
}

func TestParseOfLongerBytes(t *testing.T) {
	for _, n := range small() {
		b := plain(n)
		for more := range 256 {
			fails(t, seal(append(bytes.Clone(b), byte(more))), api.ErrShape, more)
		}
		for _, more := range []int{2, 3, 4, 6, 9, 18, 256, 765, 768, 65536} {
			fails(t, seal(slices.Concat(b, make([]byte, more))), api.ErrShape, more)
			fails(t, seal(slices.Concat(b, some(more, more))), api.ErrShape, more)
		}
		fails(t, seal(slices.Concat(b, []byte{byte(n.N), 0, 1})), api.ErrShape, "with a count more than is told")
		fails(t, seal(slices.Concat(b, b)), api.ErrShape, "twice")
		fails(t, seal(seal(b)), api.ErrShape, "sealed twice")
		fails(t, append(seal(b), 0), api.ErrSum, "with a byte behind the seal")
	}
	for _, n := range notes() {
		fails(t, seal(append(plain(n), 0)), api.ErrShape)
	}
}

// A byte more, or less, at any place.
func TestParseOfOneByteMoreOrLess(t *testing.T) {
	for _, n := range small() {
		b := plain(n)
		for at := range b {
			parsed(t, seal(slices.Delete(bytes.Clone(b), at, at+1)))
			for _, more := range []byte{0, 1, b[at], 255} {
				parsed(t, seal(slices.Insert(bytes.Clone(b), at, more)))
			}
		}
	}
}

// Each byte is each other one: sealed again, and not.
func TestParseOfOneByteTurned(t *testing.T) {
	for _, n := range small() {
		b := plain(n)
		for at := range b {
			was := b[at]
			for turn := 1; turn < 256; turn++ {
				b[at] = was ^ byte(turn)
				if e := parsed(t, seal(b)); at == 0 && e != api.ErrVersion || (at == 1 || at == 2) && e != api.OK || at == 8 && e != api.ErrShape {
					t.Error(at, turn, e)
				}
			}
			b[at] = was
		}
	}
	for _, n := range notes() {
		b := plain(n)
		for at := range b {
			for _, turn := range []byte{1, 2, 128, 255} {
				b[at] ^= turn
				parsed(t, seal(b))
				b[at] ^= turn
			}
		}
	}
}

func TestParseOfOneByteTurnedAndNotSealed(t *testing.T) {
	for _, n := range notes() {
		b := put(t, n)
		for at := range b {
			was := b[at]
			for turn := 1; turn < 256; turn++ {
				if turn&(turn-1) == 0 || turn == 255 || len(b) < 60 {
					b[at] = was ^ byte(turn)
					fails(t, b, api.ErrSum, at, turn)
				}
			}
			b[at] = was
		}
		fails(t, b, api.OK)
	}
}

// A number of four bytes whose first bit is set is none that a report has.
func TestParseOfGreatNumbers(t *testing.T) {
	of := func(seq int) []byte {
		return seal(plain(api.Note{Stream: 1, Seq: seq, N: 3, Counts: counts(2, 1)}))
	}
	for _, seq := range []int{1 << 31, 1<<31 + 1, 3 << 30, 0x80FFFFFF, 0xFF000001, 1<<32 - 2, 1<<32 - 1} {
		fails(t, of(seq), api.ErrShape, seq)
	}
	fails(t, of(0), api.ErrShape)
	fails(t, of(1<<31-1), api.OK)
	fails(t, of(1), api.OK)
	fails(t, seal([]byte{2, 0x80, 0, 0, 0, 0, 1, 0x80, 1, 0x80, 0x80, 0}), api.OK, "the first bits of shorter numbers")
}

// Each number that a byte may be, where there is one byte: for N, for what came, alone and between others.
func TestParseOfEachByte(t *testing.T) {
	for most := range 256 {
		want := api.ErrShape
		if most >= 1 {
			want = api.OK
		}
		fails(t, seal(plain(api.Note{Stream: 1, Seq: 2, N: most})), want, most)
		for _, came := range []int{0, 1, most - 1, most, most + 1, 254, 255} {
			if came < 0 || came > 255 {
				continue
			}
			want := api.ErrShape
			if came >= 1 && came <= most {
				want = api.OK
			}
			fails(t, seal(plain(api.Note{Stream: 1, Seq: 2, N: most, Counts: counts(came, 3)})), want, came, most)
		}
	}
	for came := range 256 {
		n := api.Note{Stream: 1, Seq: 2, N: 200, Counts: counts(100, 1, came, 1, 150, 1)}
		want := api.ErrShape
		if came > 100 && came < 150 {
			want = api.OK
		}
		fails(t, seal(plain(n)), want, came)
	}
}

// Of each of how many counts: they are there; they are there, but told to be one fewer, or one more.
func TestParseOfSoManyCounts(t *testing.T) {
	for many := range 256 {
		n := api.Note{Stream: 1, Seq: 2, N: 255, Counts: steps(1, many, func(came int) int { return 256 - came })}
		b := plain(n)
		fails(t, seal(b), api.OK, many)
		for _, told := range []int{many - 1, many + 1, 0, 255} {
			if told != many && told >= 0 && told <= 255 {
				b[8] = byte(told)
				fails(t, seal(b), api.ErrShape, told, "for", many)
			}
		}
		if n.N = many / 2; n.N > 0 {
			fails(t, seal(plain(n)), api.ErrShape, many, "of", n.N)
		}
	}
}

func TestParseOfCountsThatMayNotBe(t *testing.T) {
	for name, list := range map[string][]api.Count{
		"no times":           counts(1, 1, 2, 0, 3, 1),
		"no times, first":    counts(1, 0),
		"no times, last":     counts(1, 1, 10, 0),
		"none came":          counts(0, 1, 1, 1),
		"twice":              counts(1, 1, 1, 1),
		"twice at the end":   counts(1, 1, 10, 2, 10, 3),
		"falling":            counts(3, 1, 2, 1),
		"falling at the end": counts(1, 1, 3, 1, 2, 1),
		"above N":            counts(11, 1),
		"above N, at last":   counts(1, 1, 2, 1, 11, 1),
		"noughts":            counts(0, 0),
	} {
		fails(t, seal(plain(api.Note{Stream: 1, Seq: 2, N: 10, Counts: list})), api.ErrShape, name)
	}
}

// Bytes of any sort, sealed and not, some of them with numbers that a report may have.
func TestParseOfAnyBytes(t *testing.T) {
	for seed := range 4000 {
		b := some(seed%90, seed)
		parsed(t, b)
		parsed(t, seal(b))
		if len(b) > 0 {
			b[0] = 2
			parsed(t, seal(b))
		}
		if len(b) >= 9 {
			b[3], b[8] = b[3]&127, byte((len(b)-9)/3)
			parsed(t, seal(b))
			parsed(t, seal(b[:9+(len(b)-9)/3*3]))
		}
	}
}

// Datagrams in which some bytes are others, such as make right reports, too.
func TestParseOfSomeBytesTurned(t *testing.T) {
	tally := map[api.Errno]int{}
	for seed, base := range slices.Repeat(small(), 400) {
		b := plain(base)
		dice := some(8, seed)
		for i := range int(dice[0])%3 + 1 {
			at := int(dice[2*i+1]) % len(b)
			b[at] = []byte{0, 1, 2, b[at] + 1, b[at] - 1, 127, 128, 255, dice[2*i+2]}[int(dice[2*i+2])%9]
		}
		tally[parsed(t, seal(b))]++
	}
	if tally[api.OK] < 100 || tally[api.ErrShape] < 100 || tally[api.ErrVersion] < 10 {
		t.Error("the test's own bytes are too much alike", tally)
	}
}
