package sum_test

import (
	"bytes"
	"testing"

	"hourglass/api"
	"hourglass/sum"
)

// sealed is bytes with their sum behind them, the lowest byte first, by the words of the chapter.
func sealed(b []byte) []byte {
	s := onward(0, b)
	return append(bytes.Clone(b), byte(s), byte(s>>8), byte(s>>16), byte(s>>24))
}

// refused asks whether Open tells an error, and nothing beside it.
func refused(t *testing.T, b []byte, want api.Errno) {
	t.Helper()
	if out, e := sum.Open(b); e != want || len(out) != 0 {
		t.Errorf("%d bytes: %v %d, not %d", len(b), out, e, want)
	}
}

// fault is the error of so many bytes that are no sealed ones.
func fault(size int) api.Errno {
	if size < 4 {
		return api.ErrShape
	}
	return api.ErrSum
}

// P7.2

func TestSeal(t *testing.T) {
	for _, b := range samples() {
		if s := sum.Seal(b); !bytes.Equal(s, sealed(b)) {
			t.Error(b, s)
		}
	}
	for b := range 256 {
		if s := sum.Seal([]byte{byte(b)}); !bytes.Equal(s, sealed([]byte{byte(b)})) {
			t.Error(b, s)
		}
	}
	if s := sum.Seal([]byte("123456789")); string(s) != "123456789\x26\x39\xF4\xCB" {
		t.Error(s)
	}
	for _, none := range [][]byte{nil, {}} {
		if s := sum.Seal(none); !bytes.Equal(s, []byte{0, 0, 0, 0}) {
			t.Error(s)
		}
	}
}

func TestOpen(t *testing.T) {
	for _, b := range samples() {
		if out, e := sum.Open(sealed(b)); e != api.OK || !bytes.Equal(out, b) {
			t.Error(b, out, e)
		}
	}
	big := some(70000, 1)
	if out, e := sum.Open(sealed(big)); e != api.OK || !bytes.Equal(out, big) {
		t.Error(len(out), e)
	}
}

func TestOpenOfFewerThanASum(t *testing.T) {
	for size := range 4 {
		for _, b := range [][]byte{make([]byte, size), bytes.Repeat([]byte{0xFF}, size), some(size, size), sum.Seal(nil)[:size], sum.Seal([]byte("abc"))[3 : 3+size], some(20, 1)[:size]} {
			refused(t, b, api.ErrShape)
		}
	}
	refused(t, nil, api.ErrShape)
	for b := range 256 {
		refused(t, []byte{byte(b)}, api.ErrShape)
		refused(t, []byte{0, 0, byte(b)}, api.ErrShape)
	}
}

func TestOpenOfASumAlone(t *testing.T) {
	if out, e := sum.Open([]byte{0, 0, 0, 0}); e != api.OK || len(out) != 0 {
		t.Error(out, e)
	}
	for place := range 4 {
		for b := 1; b < 256; b++ {
			other := make([]byte, 4)
			other[place] = byte(b)
			refused(t, other, api.ErrSum)
		}
	}
	refused(t, []byte{0xFF, 0xFF, 0xFF, 0xFF}, api.ErrSum)
}

// Of each byte there is one sum behind it, which opens: the lowest byte of it first.
func TestOpenOfFiveBytes(t *testing.T) {
	for b := range 256 {
		s := sealed([]byte{byte(b)})
		if out, e := sum.Open(s); e != api.OK || !bytes.Equal(out, []byte{byte(b)}) {
			t.Error(b, out, e)
		}
		refused(t, []byte{s[0], s[4], s[3], s[2], s[1]}, api.ErrSum) // no byte's sum is the same from its other end
		refused(t, append(bytes.Clone(s[1:]), s[0]), api.ErrSum)     // as if it stood ahead
		refused(t, s[:4], api.ErrSum)
		for other := range 256 {
			if other != b {
				refused(t, append([]byte{byte(other)}, s[1:]...), api.ErrSum)
			}
		}
	}
}

// What is cut, or has more at an end, is not what was sealed.
func TestOpenOfOtherLengths(t *testing.T) {
	for size := range 40 {
		s := sealed(some(size, size+3))
		for less := range len(s) {
			refused(t, s[:less], fault(less))
			refused(t, s[len(s)-less:], fault(less))
		}
		refused(t, append(bytes.Clone(s), 0), api.ErrSum)
		refused(t, append(bytes.Clone(s), s...), api.ErrSum)
		refused(t, append([]byte{1}, s...), api.ErrSum)
	}
}

// P7.3

func TestWhatIsSealedIsOpened(t *testing.T) {
	for _, b := range samples() {
		s := sum.Seal(b)
		if out, e := sum.Open(s); e != api.OK || !bytes.Equal(out, b) {
			t.Error(b, out, e)
		}
		if x := sum.Of(s); x != 0x2144DF1C { // whatever was sealed
			t.Errorf("%v %#x", b, x)
		}
		twice := sum.Seal(s)
		if out, e := sum.Open(twice); e != api.OK || !bytes.Equal(out, s) {
			t.Error(b, out, e)
		}
	}
}

// turn turns bits from a place on: those that a pattern has, of each byte the lowest first.
func turn(b []byte, place int, pattern uint32) {
	for ; pattern != 0; place, pattern = place+1, pattern>>1 {
		b[place/8] ^= byte(pattern&1) << (place % 8)
	}
}

func TestOneBitTurned(t *testing.T) {
	for _, b := range samples() {
		s := sum.Seal(b)
		for place := range 8 * len(s) {
			turn(s, place, 1)
			refused(t, s, api.ErrSum)
			turn(s, place, 1)
		}
		if out, e := sum.Open(s); e != api.OK || !bytes.Equal(out, b) {
			t.Error("turned back", b, out, e)
		}
	}
}

// Each pattern of a few bits, at each place.
func TestFewBitsTurned(t *testing.T) {
	for _, size := range []int{0, 1, 2, 7} {
		s := sum.Seal(some(size, size))
		for wide := 2; wide <= 10; wide++ {
			for inside := range uint32(1) << (wide - 2) {
				pattern := 1 | inside<<1 | 1<<(wide-1)
				for place := range 8*len(s) - wide + 1 {
					turn(s, place, pattern)
					refused(t, s, api.ErrSum)
					turn(s, place, pattern)
				}
			}
		}
	}
}

// Patterns of any width up to 32 bits, at each place, those over the end of what was sealed, too.
func TestBitsWithin32Turned(t *testing.T) {
	for _, size := range []int{0, 1, 4, 5, 33, 100} {
		s := sum.Seal(some(size, size))
		for wide := 1; wide <= 32; wide++ {
			high := uint32(1) << (wide - 1)
			patterns := []uint32{1 | high, high<<1 - 1} // its ends, and all of it
			for seed := range 3 {
				x := some(4, wide*7+seed)
				patterns = append(patterns, 1|high|(high-1)&(uint32(x[0])|uint32(x[1])<<8|uint32(x[2])<<16|uint32(x[3])<<24))
			}
			for place := range 8*len(s) - wide + 1 {
				for _, pattern := range patterns {
					turn(s, place, pattern)
					refused(t, s, api.ErrSum)
					turn(s, place, pattern)
				}
			}
		}
	}
}

// 33 bits may be turned unseen: those of the polynomial itself. So it is this sum, and no other one.
func TestBitsThatAreTheSumsOwn(t *testing.T) {
	b := some(20, 1)
	s := sum.Seal(b)
	for place := range 8*len(s) - 32 {
		turn(s, place, 1) // the bit that goes, and what is put in when it goes, moved by one
		turn(s, place+1, 0xEDB88320)
		out, e := sum.Open(s)
		if e != api.OK || !bytes.Equal(out, s[:20]) || bytes.Equal(out, b) {
			t.Error(place, out, e)
		}
		turn(s, place, 1)
		turn(s, place+1, 0xEDB88320)
	}
}

// R3: arguments stay as they were, with all memory behind them, and answers share none with them nor with one another.

// spoil writes over all memory of an answer.
func spoil(b []byte) {
	b = b[:cap(b)]
	for i := range b {
		b[i] ^= 0xFF
	}
}

func TestSealLeavesItsArgument(t *testing.T) {
	for size := range 20 {
		back := some(40, size)
		was := bytes.Clone(back)
		first := sum.Seal(back[3 : 3+size])
		again := sum.Seal(back[3 : 3+size])
		if !bytes.Equal(back, was) {
			t.Error(size, "changed", back)
		}
		spoil(first)
		if !bytes.Equal(back, was) || !bytes.Equal(again, sealed(was[3:3+size])) {
			t.Error(size, "shared", back, again)
		}
		spoil(back)
		if !bytes.Equal(again, sealed(was[3:3+size])) {
			t.Error(size, "kept", again)
		}
	}
}

func TestOpenLeavesItsArgument(t *testing.T) {
	for size := range 20 {
		b := some(size, size)
		back := append(append([]byte{91, 92, 93}, sealed(b)...), 94, 95, 96, 97, 98)
		was := bytes.Clone(back)
		first, e1 := sum.Open(back[3 : 7+size])
		again, e2 := sum.Open(back[3 : 7+size])
		sum.Open(back[3 : 8+size])
		sum.Open(back[:3])
		if e1 != api.OK || e2 != api.OK || !bytes.Equal(back, was) {
			t.Error(size, "changed", back, e1, e2)
		}
		spoil(first)
		if !bytes.Equal(back, was) || !bytes.Equal(again, b) {
			t.Error(size, "shared", back, again)
		}
		spoil(back)
		if !bytes.Equal(again, b) {
			t.Error(size, "kept", again)
		}
	}
}

// R4: one thing is answered alike each time, whatever came between.
func TestAlikeEachTime(t *testing.T) {
	for seed := range 30 {
		b := some(seed*5, seed)
		first := sum.Seal(b)
		sum.Open(b)
		sum.Go(uint32(seed), b)
		if again := sum.Seal(bytes.Clone(b)); !bytes.Equal(first, again) {
			t.Error(seed, first, again)
		}
		for range 3 {
			if out, e := sum.Open(first); e != api.OK || !bytes.Equal(out, b) {
				t.Error(seed, out, e)
			}
			refused(t, first[:len(first)-1], fault(len(first)-1))
		}
	}
}
