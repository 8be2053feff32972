package note_test

import (
	"bytes"
	"slices"
	"testing"

	"hourglass/api"
	"hourglass/note"
)

// P15.2

func TestPutThatIsWrittenOut(t *testing.T) {
	for i, x := range []struct {
		n     api.Note
		inner []byte
	}{
		{good(), []byte{2, 0x12, 0x34, 0x23, 0x45, 0x67, 0x89, 9, 4, 2, 0xAB, 0xCD, 3, 1, 44, 5, 0, 1, 8, 0, 7}},
		{api.Note{Stream: 0, Seq: 1, N: 1}, []byte{2, 0, 0, 0, 0, 0, 1, 1, 0}},
		{api.Note{Stream: 65535, Seq: 1<<31 - 1, N: 255, Counts: counts(255, 65535)}, []byte{2, 255, 255, 127, 255, 255, 255, 255, 1, 255, 255, 255}},
		{api.Note{Stream: 256, Seq: 1 << 24, N: 2, Counts: counts(1, 256, 2, 1)}, []byte{2, 1, 0, 1, 0, 0, 0, 2, 2, 1, 1, 0, 2, 0, 1}},
		{api.Note{Stream: 1, Seq: 0xABCDEF, N: 128, Counts: counts(127, 0xFEDC, 128, 0x00FF)}, []byte{2, 0, 1, 0, 0xAB, 0xCD, 0xEF, 128, 2, 127, 0xFE, 0xDC, 128, 0, 255}},
	} {
		want := seal(x.inner)
		if b, e := note.Put(x.n); e != api.OK || !bytes.Equal(b, want) {
			t.Error(i, b, e)
		}
		if n, e := note.Parse(want); e != api.OK || !same(n, x.n) {
			t.Error(i, n, e)
		}
	}
}

func TestPutOfNotes(t *testing.T) {
	for _, n := range notes() {
		put(t, n)
	}
	n := api.Note{Stream: 9, Seq: 8, N: 255, Counts: steps(1, 255, func(came int) int { return 257 * came })}
	if b := put(t, n); len(b) != 9+3*255+4 || b[7] != 255 || b[8] != 255 || b[9] != 1 || b[771] != 255 || b[772] != 255 || b[773] != 255 {
		t.Error(len(b))
	}
}

func TestPutOfEachNumber(t *testing.T) {
	for _, base := range small() {
		for _, p := range parts() {
			for _, x := range p.may {
				n := base
				*p.of(&n) = x
				put(t, n)
			}
			for _, x := range slices.Concat(far, p.none) {
				n := base
				*p.of(&n) = x
				refused(t, n)
			}
		}
	}
}

// Each N that counts may be of, each number that may have come, alone and with all below it.
func TestPutOfEachCame(t *testing.T) {
	for _, most := range []int{1, 2, 3, 128, 254, 255} {
		for came := -1; came <= 258; came++ {
			judged(t, api.Note{Stream: 1, Seq: 2, N: most, Counts: counts(came, 3)})
			if came >= 1 {
				judged(t, api.Note{Stream: 1, Seq: 2, N: most, Counts: steps(1, came, func(came int) int { return came })})
			}
		}
	}
}

func TestPutOfTimes(t *testing.T) {
	for _, times := range slices.Concat(far, []int{0, 1, 2, 127, 128, 254, 255, 256, 257, 511, 512, 32767, 32768, 65279, 65280, 65534, 65535, 65536, 65537, 131071}) {
		judged(t, api.Note{Stream: 1, Seq: 2, N: 3, Counts: counts(1, times)})
		judged(t, api.Note{Stream: 1, Seq: 2, N: 3, Counts: counts(1, 1, 2, times, 3, 65535)})
		judged(t, api.Note{Stream: 1, Seq: 2, N: 3, Counts: counts(1, 65535, 2, 1, 3, times)})
	}
}

func TestPutOfNothing(t *testing.T) {
	refused(t, api.Note{})
	refused(t, api.Note{Counts: counts(1, 1)})
	refused(t, api.Note{Seq: 1})
	refused(t, api.Note{N: 1})
	put(t, api.Note{Seq: 1, N: 1})
	put(t, api.Note{Seq: 1, N: 1, Counts: []api.Count{}})
}
