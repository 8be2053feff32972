package sum_test

import (
	"bytes"
	"hash/crc32"
	"testing"

	"hourglass/api"
	"hourglass/sum"
)

// What is asked of sums is held against this, which knows the words of the chapter alone: bit by bit, the lowest one first.
func onward(state uint32, b []byte) uint32 {
	var bits [32]bool
	for place := range bits {
		bits[place] = state>>place&1 == 0 // in the end all of them were turned
	}
	for _, each := range b {
		for place := range 8 {
			bits[place] = bits[place] != (each>>place&1 == 1)
		}
		for range 8 {
			goes := bits[0]
			copy(bits[:], bits[1:])
			bits[31] = false
			for place := range bits {
				bits[place] = bits[place] != (goes && 0xEDB88320>>place&1 == 1)
			}
		}
	}
	out := uint32(0)
	for place, bit := range bits {
		if !bit {
			out |= 1 << place
		}
	}
	return out
}

// some is so many bytes, by a rule.
func some(size, seed int) []byte {
	out, state := make([]byte, size), uint32(seed)*2654435761+12345
	for i := range out {
		state = state*1664525 + 1013904223
		out[i] = byte(state >> 24)
	}
	return out
}

// samples are rows of bytes: short ones, ordinary ones, and such as are one byte alone.
func samples() [][]byte {
	out := [][]byte{nil, {}, []byte("123456789"), []byte("a"), []byte("The quick brown fox jumps over the lazy dog"), {0xFF, 0xFF, 0xFF, 0xFF}, {0xFF, 0xFF, 0xFF, 0xFF, 0}}
	for size := range 70 {
		out = append(out, some(size, size), make([]byte, size), bytes.Repeat([]byte{0xFF}, size), bytes.Repeat([]byte{0x80}, size))
	}
	for _, size := range []int{127, 128, 255, 256, 257, 1400, 1500} {
		out = append(out, some(size, size))
	}
	return out
}

// states are such as sums may be: nought, all ones, single bits, and others.
func states() []uint32 {
	out := []uint32{0, 0xFFFFFFFF, 0xEDB88320, 0xCBF43926, 0x7FFFFFFF, 0x80000001, 0xFF, 0xFF00, 0xFFFFFF00, 0x12345678}
	for place := range 32 {
		out = append(out, 1<<place, ^uint32(1<<place))
	}
	return out
}

func TestExamples(t *testing.T) {
	if x := sum.Of([]byte("123456789")); x != 0xCBF43926 {
		t.Errorf("%#x", x)
	}
	if x := sum.Of(); x != 0 {
		t.Errorf("%#x", x)
	}
	for text, want := range map[string]uint32{"a": 0xE8B7BE43, "abc": 0x352441C2, "The quick brown fox jumps over the lazy dog": 0x414FA339, "\x00": 0xD202EF8D, "\xFF": 0xFF000000, "\xFF\xFF\xFF\xFF": 0xFFFFFFFF, "\x00\x00\x00\x00": 0x2144DF1C} {
		if x := sum.Of([]byte(text)); x != want {
			t.Errorf("%q %#x %#x", text, x, want)
		}
	}
}

// P7.1

func TestOfNothing(t *testing.T) {
	for i, parts := range [][][]byte{nil, {}, {nil}, {{}}, {nil, nil}, {{}, nil, {}}, make([][]byte, 1000), {some(9, 1)[:0], some(9, 2)[9:]}} {
		if x := sum.Of(parts...); x != 0 {
			t.Errorf("%d %#x", i, x)
		}
	}
}

func TestOfEachByte(t *testing.T) {
	for b := range 256 {
		one := []byte{byte(b)}
		if x, want := sum.Of(one), onward(0, one); x != want || want != crc32.ChecksumIEEE(one) {
			t.Errorf("%#x %#x %#x", b, x, want)
		}
	}
}

func TestOfTwoBytes(t *testing.T) {
	for b := range 1 << 16 {
		two := []byte{byte(b), byte(b >> 8)}
		if x, want := sum.Of(two), crc32.ChecksumIEEE(two); x != want {
			t.Fatalf("%#x %#x %#x", b, x, want)
		}
	}
}

func TestOfBytes(t *testing.T) {
	for _, b := range samples() {
		want := onward(0, b)
		if known := crc32.ChecksumIEEE(b); known != want {
			t.Fatalf("%v %#x %#x", b, known, want)
		}
		if x := sum.Of(b); x != want {
			t.Errorf("%d bytes: %#x %#x", len(b), x, want)
		}
		if x := sum.Go(0, b); x != want {
			t.Errorf("%d bytes, of state 0: %#x %#x", len(b), x, want)
		}
	}
}

func TestOfManyBytes(t *testing.T) {
	for i, size := range []int{65535, 65536, 65537, 1<<20 + 3} {
		b := some(size, i)
		want := crc32.ChecksumIEEE(b)
		if x := sum.Of(b); x != want {
			t.Errorf("%d %#x %#x", size, x, want)
		}
		if x := sum.Go(sum.Of(b[:size/3]), b[size/3:]); x != want {
			t.Errorf("%d %#x %#x", size, x, want)
		}
	}
}

func TestGoOnWithNothing(t *testing.T) {
	for _, state := range states() {
		for _, none := range [][]byte{nil, {}, some(3, 1)[3:]} {
			if x := sum.Go(state, none); x != state {
				t.Errorf("%#x %#x", state, x)
			}
		}
	}
}

func TestGoOnWithAnyState(t *testing.T) {
	for _, state := range states() {
		for b := range 256 {
			one := []byte{byte(b)}
			if x, want := sum.Go(state, one), onward(state, one); x != want {
				t.Errorf("%#x %#x %#x %#x", state, b, x, want)
			}
		}
		for _, size := range []int{2, 3, 4, 5, 8, 31, 100} {
			b := some(size, int(state>>4))
			if x, want := sum.Go(state, b), onward(state, b); x != want {
				t.Errorf("%#x %d %#x %#x", state, size, x, want)
			}
		}
	}
}

// A state is the sum of bytes: of some whose sum is all ones, and of some whose sum is nought, though there are bytes.
func TestGoOnBehindBytesOfAState(t *testing.T) {
	for state, first := range map[uint32][]byte{0xFFFFFFFF: {0xFF, 0xFF, 0xFF, 0xFF}, 0: {0x9D, 0x0A, 0xD9, 0x6D}} {
		if x := sum.Of(first); x != state {
			t.Fatalf("%#x %#x", x, state)
		}
		for _, b := range samples() {
			if x, want := sum.Go(state, b), sum.Of(first, b); x != want || x != onward(0, append(bytes.Clone(first), b...)) {
				t.Errorf("%#x %d %#x %#x", state, len(b), x, want)
			}
		}
	}
}

func TestGoOnAtEachPlace(t *testing.T) {
	for _, b := range samples() {
		want := onward(0, b)
		for place := range len(b) + 1 {
			if x := sum.Go(sum.Of(b[:place]), b[place:]); x != want {
				t.Errorf("%d of %d: %#x %#x", place, len(b), x, want)
			}
		}
		state := uint32(0)
		for i := range b {
			state = sum.Go(state, b[i:i+1])
		}
		if state != want {
			t.Errorf("%d, byte by byte: %#x %#x", len(b), state, want)
		}
	}
}

// P7.3, of parts

func TestPartsCutAtEachPlace(t *testing.T) {
	for _, size := range []int{0, 1, 2, 3, 4, 5, 17, 40} {
		b := some(size, size)
		want := onward(0, b)
		for one := range size + 1 {
			for two := one; two <= size; two++ {
				for i, parts := range [][][]byte{{b[:one], b[one:two], b[two:]}, {nil, b[:one], {}, b[one:two], b[two:], nil}, {b[:two], b[two:]}} {
					if x := sum.Of(parts...); x != want {
						t.Errorf("%d of %d at %d, %d: %#x %#x", i, size, one, two, x, want)
					}
				}
			}
		}
	}
}

func TestPartsOfOneByteEach(t *testing.T) {
	for _, b := range samples() {
		var parts [][]byte
		for i := range b {
			parts = append(parts, b[i:i+1], nil)
		}
		if x, want := sum.Of(parts...), onward(0, b); x != want {
			t.Errorf("%d %#x %#x", len(b), x, want)
		}
	}
}

// One part may come more than once, and their order counts.
func TestPartsThatAreOne(t *testing.T) {
	b := some(11, 5)
	if x, want := sum.Of(b, b, b[2:6], b), onward(0, bytes.Join([][]byte{b, b, b[2:6], b}, nil)); x != want {
		t.Errorf("%#x %#x", x, want)
	}
	if sum.Of(b[:4], b[4:]) == sum.Of(b[4:], b[:4]) {
		t.Error("in another order")
	}
}

// R3 and R4, of sums

func TestSumsLeaveTheirArguments(t *testing.T) {
	b := some(90, 1)
	parts := [][]byte{b[:0], b[0:20], nil, b[20:33], b[33:80], b[10:15]}
	were := make([][]byte, len(parts))
	for i, part := range parts {
		were[i] = bytes.Clone(part)
	}
	first, on := sum.Of(parts...), sum.Go(77, b[:50])
	if !bytes.Equal(b, some(90, 1)) {
		t.Error("changed", b)
	}
	for i, part := range parts {
		if !bytes.Equal(part, were[i]) {
			t.Error("changed", i)
		}
	}
	for i := range 20 {
		sum.Go(uint32(i), b[i:])
		if sum.Of(parts...) != first || sum.Go(77, b[:50]) != on {
			t.Error("not alike", i)
		}
	}
	clear(b)
	if x := sum.Of(b[:4]); x != 0x2144DF1C {
		t.Errorf("kept: %#x", x)
	}
}

func TestErrorsByTheirNumbers(t *testing.T) {
	if api.OK != 0 || api.ErrShape != 4 || api.ErrSum != 10 {
		t.Error(api.OK, api.ErrShape, api.ErrSum)
	}
}
