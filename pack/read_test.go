package pack_test

import (
	"bytes"
	"math"
	"testing"

	"hourglass/api"
	"hourglass/pack"
)

// stands asks how many are left of a reader that is not broken.
func stands(t *testing.T, r *pack.Reader, left int, what ...any) {
	t.Helper()
	want := api.OK
	if left > 0 {
		want = api.ErrShape
	}
	for range 2 { // to tell it changes nothing
		if r.Left() != left || r.End() != want {
			t.Error(append(what, r.Left(), r.End(), left)...)
		}
	}
}

// fallen asks whether a reader is broken by an error.
func fallen(t *testing.T, r *pack.Reader, want api.Errno, what ...any) {
	t.Helper()
	if r.Left() != 0 || r.End() != want {
		t.Error(append(what, r.Left(), r.End(), want)...)
	}
}

// P8.2

func TestOverNothing(t *testing.T) {
	for _, none := range [][]byte{nil, {}, some(5, 1)[:0], some(5, 1)[5:]} {
		r := pack.Over(none)
		if r == nil {
			t.Fatal("no reader")
		}
		stands(t, r, 0)
		if b := r.Take(0); len(b) != 0 {
			t.Error(b)
		}
		stands(t, r, 0)
		for size := 1; size <= 4; size++ {
			r := pack.Over(none)
			if n := r.Number(size); n != 0 {
				t.Error(size, n)
			}
			fallen(t, r, api.ErrShape, size)
			r = pack.Over(none)
			if b := r.Take(size); b != nil {
				t.Error(size, b)
			}
			fallen(t, r, api.ErrShape, size)
		}
	}
}

// Of each size, of so many bytes: more than are asked for, just as many, fewer.
func TestReadNumbersOfSoManyBytes(t *testing.T) {
	for size := 1; size <= 4; size++ {
		for many := range 12 {
			b := some(many, many+size)
			r := pack.Over(b)
			left := many
			for left >= size {
				want := 0
				for _, x := range b[many-left : many-left+size] {
					want = want*256 + int(x)
				}
				if n := r.Number(size); n != want {
					t.Error(size, many, left, n, want)
				}
				left -= size
				stands(t, r, left, size, many)
			}
			if n := r.Number(size); n != 0 {
				t.Error(size, many, n)
			}
			fallen(t, r, api.ErrShape, size, many)
		}
	}
}

func TestTakeSoManyBytes(t *testing.T) {
	for many := range 12 {
		b := some(many, many)
		for ahead := range many + 1 {
			for size := range 14 {
				r := pack.Over(b)
				if first := r.Take(ahead); !bytes.Equal(first, b[:ahead]) {
					t.Error(many, ahead, first)
				}
				stands(t, r, many-ahead, many, ahead)
				got := r.Take(size)
				if size > many-ahead {
					if got != nil {
						t.Error(many, ahead, size, got)
					}
					fallen(t, r, api.ErrShape, many, ahead, size)
					continue
				}
				if !bytes.Equal(got, b[ahead:ahead+size]) {
					t.Error(many, ahead, size, got)
				}
				stands(t, r, many-ahead-size, many, ahead, size)
			}
		}
	}
}

func TestTakeMuch(t *testing.T) {
	big := some(1<<20+3, 1)
	r := pack.Over(big)
	stands(t, r, len(big))
	if b := r.Take(len(big)); !bytes.Equal(b, big) {
		t.Error(len(b))
	}
	stands(t, r, 0)
	for _, many := range []int{4, 5, 255, 256, 65536, 1 << 31, 1 << 32, 1<<32 + 1, 1<<32 + 3, 1 << 62, math.MaxInt - 3, math.MaxInt - 1, math.MaxInt} {
		for _, ahead := range []int{0, 1, 3} {
			r := pack.Over(big[:3])
			r.Take(ahead)
			if b := r.Take(many); b != nil {
				t.Error(many, len(b))
			}
			fallen(t, r, api.ErrShape, many, ahead)
		}
	}
}

// What is no size is ErrArg, and not that too few are left, however many are.
func TestReadNumbersOfSizesThatAreNone(t *testing.T) {
	for _, size := range sizes() {
		for _, many := range []int{0, 1, 3, 4, 5, 9, 300} {
			r := pack.Over(some(many, 1))
			if n := r.Number(size); n != 0 {
				t.Error(size, many, n)
			}
			fallen(t, r, api.ErrArg, size, many)
		}
	}
}

func TestTakeBelowNothing(t *testing.T) {
	for _, size := range sizes() {
		if size >= 0 {
			continue
		}
		for _, many := range []int{0, 1, 3, 4, 5, 9, 300} {
			r := pack.Over(some(many, 1))
			if b := r.Take(size); b != nil {
				t.Error(size, many, b)
			}
			fallen(t, r, api.ErrArg, size, many)
			r = pack.Over(some(many, 1))
			r.Take(many)
			if b := r.Take(size); b != nil {
				t.Error(size, many, b)
			}
			fallen(t, r, api.ErrArg, "nothing left", size, many)
		}
	}
}

// falls are the calls that break a reader of ten bytes, each with its error.
func falls() map[string]struct {
	breaks func(r *pack.Reader) bool // whether it told something
	e      api.Errno
} {
	number := func(size int) func(r *pack.Reader) bool {
		return func(r *pack.Reader) bool { return r.Number(size) != 0 }
	}
	take := func(n int) func(r *pack.Reader) bool {
		return func(r *pack.Reader) bool { return r.Take(n) != nil }
	}
	return map[string]struct {
		breaks func(r *pack.Reader) bool
		e      api.Errno
	}{
		"a number of size 0":  {number(0), api.ErrArg},
		"a number of size 5":  {number(5), api.ErrArg},
		"a number of size -1": {number(-1), api.ErrArg},
		"-1 bytes":            {take(-1), api.ErrArg},
		"11 bytes":            {take(11), api.ErrShape},
		"many bytes":          {take(math.MaxInt), api.ErrShape},
		"a number of too few": {func(r *pack.Reader) bool { return len(r.Take(7)) == 0 || r.Number(4) != 0 }, api.ErrShape},
		"a number of none":    {func(r *pack.Reader) bool { return len(r.Take(10)) == 0 || r.Number(1) != 0 }, api.ErrShape},
		"a byte of none":      {func(r *pack.Reader) bool { return len(r.Take(10)) == 0 || r.Take(1) != nil }, api.ErrShape},
	}
}

func TestABrokenReaderStaysBroken(t *testing.T) {
	ten := bytes.Repeat([]byte{0xFF}, 10)
	for name, first := range falls() {
		r := pack.Over(ten)
		if first.breaks(r) {
			t.Error(name, "told something")
		}
		fallen(t, r, first.e, name)
		fallen(t, r, first.e, name, "asked again")
		for size := -1; size <= 6; size++ {
			if n := r.Number(size); n != 0 {
				t.Error(name, size, n)
			}
			fallen(t, r, first.e, name, "then a number", size)
			if b := r.Take(size); b != nil {
				t.Error(name, size, b)
			}
			fallen(t, r, first.e, name, "then bytes", size)
		}
		for again, next := range falls() {
			r := pack.Over(ten)
			first.breaks(r)
			next.breaks(r)
			fallen(t, r, first.e, name, again)
		}
	}
}

// That some are left is told by End, and breaks nothing.
func TestEndBreaksNothing(t *testing.T) {
	b := some(10, 1)
	r := pack.Over(b)
	for place := range b {
		if e := r.End(); e != api.ErrShape || r.Left() != 10-place {
			t.Error(place, e, r.Left())
		}
		if n := r.Number(1); n != int(b[place]) {
			t.Error(place, n)
		}
	}
	stands(t, r, 0)
}

func TestReadersAreTheirOwn(t *testing.T) {
	b := some(8, 1)
	one, two, three := pack.Over(b), pack.Over(b), pack.Over(b[4:])
	one.Take(3)
	two.Take(-1)
	stands(t, one, 5)
	fallen(t, two, api.ErrArg)
	stands(t, three, 4)
	if x := one.Take(5); !bytes.Equal(x, b[3:]) {
		t.Error(x)
	}
	if x := three.Take(4); !bytes.Equal(x, b[4:]) {
		t.Error(x)
	}
	stands(t, pack.Over(b), 8)
}

// P8.4

func TestEachRowOfTwoBytesIsOneNumber(t *testing.T) {
	seen := make([]bool, 1<<16)
	for high := range 256 {
		for low := range 256 {
			row := []byte{byte(high), byte(low)}
			n := pack.Over(row).Number(2)
			if n < 0 || n > 65535 || seen[n] {
				t.Fatal(row, n)
			}
			seen[n] = true
			w := pack.New()
			w.Number(n, 2)
			written(t, w, row, n)
		}
		one := pack.Over([]byte{byte(high)})
		if n := one.Number(1); n != high {
			t.Error(high, n)
		}
	}
}

func TestRowsAndNumbersOfEachSize(t *testing.T) {
	for size := 1; size <= 4; size++ {
		rows := map[string]int{}
		for _, n := range numbers(size) {
			w := pack.New()
			w.Number(n, size)
			b, e := w.Bytes()
			if was, twice := rows[string(b)]; e != api.OK || twice && was != n {
				t.Error(size, n, was, e)
			}
			rows[string(b)] = n
			r := pack.Over(b)
			if back := r.Number(size); back != n || r.End() != api.OK {
				t.Error(size, n, back, r.End())
			}
		}
		for seed := range 500 {
			b := some(size, seed)
			w := pack.New()
			w.Number(pack.Over(b).Number(size), size)
			written(t, w, b, size, seed)
		}
	}
}

func TestWhatIsWrittenIsRead(t *testing.T) {
	for seed := range 200 {
		rule := some(60, seed)
		w, want := pack.New(), []int(nil)
		for i, x := range rule {
			if size := int(x) % 5; size > 0 {
				all := numbers(size)
				want = append(want, all[(seed+i*7)%len(all)])
				w.Number(want[i], size)
				continue
			}
			want = append(want, i%6)
			w.Put(some(i%6, i))
		}
		b, e := w.Bytes()
		if e != api.OK {
			t.Fatal(seed, e)
		}
		r := pack.Over(b)
		for i, x := range rule {
			if size := int(x) % 5; size > 0 {
				if n := r.Number(size); n != want[i] {
					t.Fatal(seed, i, n, want[i])
				}
			} else if got := r.Take(i % 6); !bytes.Equal(got, some(i%6, i)) {
				t.Fatal(seed, i, got)
			}
		}
		stands(t, r, 0, seed)
	}
}

// R3: arguments stay as they were, with all memory behind them, and answers share none with them nor with one another.

// spoil writes over all memory of an answer.
func spoil(b []byte) {
	b = b[:cap(b)]
	for i := range b {
		b[i] ^= 0xFF
	}
}

func TestPutLeavesItsArgument(t *testing.T) {
	for size := range 20 {
		back := some(40, size)
		was := bytes.Clone(back)
		w := pack.New()
		w.Put(back[3 : 3+size])
		w.Number(0x01020304, 4)
		w.Put(back[3 : 3+size])
		if !bytes.Equal(back, was) {
			t.Error(size, "changed", back)
		}
		spoil(back)
		part := was[3 : 3+size]
		written(t, w, bytes.Join([][]byte{part, {1, 2, 3, 4}, part}, nil), "kept", size)
	}
}

func TestBytesAreNewEachTime(t *testing.T) {
	for size := range 70 {
		w, want := pack.New(), some(size, size)
		w.Put(want)
		first, _ := w.Bytes()
		again, _ := w.Bytes()
		spoil(first)
		if !bytes.Equal(again, want) {
			t.Error(size, "shared", again)
		}
		written(t, w, want, "kept", size)
		was := bytes.Clone(first)
		w.Number(7, 1)
		w.Put([]byte{8, 9})
		if !bytes.Equal(again, want) || !bytes.Equal(first, was) {
			t.Error(size, "written on", first, again)
		}
		more := append(bytes.Clone(want), 7, 8, 9)
		written(t, w, more, size)
		last, _ := w.Bytes()
		w.Number(-1, 1)
		ruined(t, w, api.ErrArg, size)
		if !bytes.Equal(last, more) || !bytes.Equal(again, want) {
			t.Error(size, "broken", last, again)
		}
		spoil(again)
		if !bytes.Equal(last, more) {
			t.Error(size, "shared", last)
		}
	}
}

func TestOverLeavesItsArgument(t *testing.T) {
	back := some(40, 1)
	was := bytes.Clone(back)
	r := pack.Over(back[3:23])
	one, n, two := r.Take(5), r.Number(4), r.Take(6)
	if !bytes.Equal(back, was) {
		t.Error("changed", back)
	}
	if !bytes.Equal(one, was[3:8]) || n != int(was[8])<<24|int(was[9])<<16|int(was[10])<<8|int(was[11]) || !bytes.Equal(two, was[12:18]) {
		t.Error(one, n, two)
	}
	spoil(one)
	if !bytes.Equal(two, was[12:18]) || !bytes.Equal(back, was) {
		t.Error("shared", two, back)
	}
	spoil(two)
	if !bytes.Equal(back, was) {
		t.Error("shared", back)
	}
	spoil(back)
	if rest := r.Take(5); !bytes.Equal(rest, was[18:23]) {
		t.Error("kept", rest)
	}
	if r.Left() != 0 || r.End() != api.OK {
		t.Error(r.Left(), r.End())
	}
}

// All that is taken is of its own, byte by byte and row by row, with the memory behind it.
func TestTakenBytesAreNewEachTime(t *testing.T) {
	for size := 1; size <= 9; size++ {
		b := some(90, size)
		r := pack.Over(b)
		var rows [][]byte
		for range 90 / size {
			rows = append(rows, r.Take(size))
			spoil(r.Take(0))
		}
		for i, row := range rows {
			if !bytes.Equal(row, b[i*size:(i+1)*size]) {
				t.Error(size, i, row)
			}
			spoil(row)
		}
		r = pack.Over(b)
		for i := range rows { // each is spoilt ahead of the next one
			row := r.Take(size)
			if !bytes.Equal(row, b[i*size:(i+1)*size]) {
				t.Error(size, i, row)
			}
			spoil(row)
		}
	}
}

// R4: one thing is answered alike each time, whatever came between.
func TestAlikeEachTime(t *testing.T) {
	play := func() (out []int) {
		w := pack.New()
		w.Number(0x01020304, 4)
		w.Put(some(5, 5))
		b, e := w.Bytes()
		r := pack.Over(b)
		out = append(out, int(e), r.Number(3), r.Left(), r.Number(2), int(r.End()), len(r.Take(3)), r.Left())
		return append(out, r.Number(2), r.Left(), int(r.End()))
	}
	first := play()
	for i := range 20 {
		w := pack.New()
		w.Number(i, i%6)
		pack.Over(some(i, i)).Take(i - 3)
		again := play()
		for place, x := range first {
			if again[place] != x {
				t.Error(i, place, x, again[place])
			}
		}
	}
}
