package strip_test

import (
	"bytes"
	"slices"
	"testing"

	"hourglass/api"
	"hourglass/strip"
)

// R3: arguments stay as they were, with all memory behind them, and answers share none with them nor with one another.

// spoil writes over all memory that came with a row.
func spoil(row []byte) {
	row = row[:cap(row)]
	for i := range row {
		row[i] ^= 0xFF
	}
}

// within are rows that stand one behind the other in one memory, with bytes ahead of them and behind them.
func within(rows [][]byte) (back []byte, parts [][]byte) {
	back = slices.Concat([]byte{91, 92}, bytes.Join(rows, nil), []byte{93, 94, 95})
	at := 2
	for _, row := range rows {
		parts = append(parts, back[at:at+len(row)])
		at += len(row)
	}
	return back, parts
}

func TestCutLeavesItsArgument(t *testing.T) {
	for long := range 30 {
		for _, k := range []int{1, 2, 3, 7, 29, 30, 31, 255} {
			back, parts := within([][]byte{some(long, k)})
			was, want := bytes.Clone(back), cut(parts[0], k, nought)
			first, e1 := strip.Cut(parts[0], k)
			again, e2 := strip.Cut(parts[0], k)
			strip.Cut(parts[0], 0)
			strip.Cut(parts[0], 256)
			if e1 != api.OK || e2 != api.OK || !bytes.Equal(back, was) {
				t.Error(long, k, "changed", e1, e2)
			}
			for _, row := range first {
				spoil(row)
			}
			clear(first[:cap(first)])
			if !bytes.Equal(back, was) || !same(again, want) {
				t.Error(long, k, "shared")
			}
			spoil(back)
			if !same(again, want) {
				t.Error(long, k, "kept")
			}
		}
	}
}

func TestRowsShareNoMemory(t *testing.T) {
	for _, k := range []int{1, 2, 3, 7, 100, 254, 255} {
		for _, long := range []int{0, 1, 2, k - 1, k, k + 1, 5*k - 2, 5 * k, 5*k + 1} {
			b := some(long, k)
			rows, e := strip.Cut(b, k)
			if e != api.OK {
				t.Fatal(long, k, e)
			}
			was := clone(rows)
			for i, row := range rows {
				spoil(row)
				for j, other := range rows {
					if i != j && !bytes.Equal(other, was[j]) {
						t.Fatal(long, k, i, j, "shared")
					}
				}
				spoil(row)
			}
		}
	}
}

func TestARowThatIsMadeLongerLeavesTheOthers(t *testing.T) {
	for _, k := range []int{2, 3, 7, 255} {
		for _, long := range []int{1, k, k + 1, 5*k - 2, 5 * k} {
			rows, e := strip.Cut(some(long, k), k)
			was := clone(rows)
			for place := range rows {
				longer := append(rows[place], 201, 202, 203)
				if e != api.OK || !same(rows, was) || len(longer) != len(was[place])+3 {
					t.Fatal(long, k, place, e)
				}
			}
		}
	}
}

func TestJoinLeavesItsArgument(t *testing.T) {
	for long := range 30 {
		for _, k := range []int{1, 2, 3, 7, 29, 30, 31, 255} {
			b := some(long, k)
			back, rows := within(cut(b, k, func(place int) byte { return byte(place) }))
			was, stood := bytes.Clone(back), clone(rows)
			first, e1 := strip.Join(rows, long)
			again, e2 := strip.Join(rows, long)
			strip.Join(rows, -1)
			strip.Join(rows, long+k)
			if e1 != api.OK || e2 != api.OK || !bytes.Equal(back, was) || !same(rows, stood) {
				t.Error(long, k, "changed", e1, e2)
			}
			spoil(first)
			if !bytes.Equal(back, was) || !same(rows, stood) || !bytes.Equal(again, b) {
				t.Error(long, k, "shared")
			}
			spoil(back)
			clear(rows)
			if !bytes.Equal(again, b) {
				t.Error(long, k, "kept")
			}
		}
	}
}

// A row that does not fit is found behind others that do: they stay, too.
func TestJoinOfAnErrorLeavesItsArgument(t *testing.T) {
	back, rows := within([][]byte{{1, 2}, {3, 4}, {5}, {6, 7}})
	was, stood := bytes.Clone(back), clone(rows)
	unjoined(t, rows, 8, api.ErrShape)
	unjoined(t, rows, 65536, api.ErrArg)
	if !bytes.Equal(back, was) || !same(rows, stood) {
		t.Error(back, rows)
	}
}

// Rows may share memory with one another.
func TestRowsThatOverlap(t *testing.T) {
	back := []byte{1, 2, 3, 4, 5}
	joined(t, [][]byte{back[:3], back[1:4], back[2:]}, []byte{1, 2, 3, 2, 3, 4, 3, 4})
	joined(t, [][]byte{back, back}, []byte{1, 2, 3, 4, 5, 1, 2, 3, 4, 5})
	if !bytes.Equal(back, []byte{1, 2, 3, 4, 5}) {
		t.Error(back)
	}
}

// R4: one thing is answered alike each time, whatever came between; it does not hang on where, or how, it stands.
func TestAlikeEachTime(t *testing.T) {
	for seed := range 40 {
		b, k := some(seed*7, seed), seed%9+1
		roomy := append(make([]byte, 0, 1000), b...)
		first, e := strip.Cut(b, k)
		want := clone(first)
		for range 3 {
			unparted(t, b, 0)
			unjoined(t, want, len(b)+k, api.ErrShape)
			parted(t, roomy, k)
			joined(t, want, b)
			if e != api.OK || !same(first, want) {
				t.Error(seed, e)
			}
		}
	}
}
