package note_test

import (
	"bytes"
	"slices"
	"testing"

	"hourglass/api"
	"hourglass/note"
)

// R3: arguments stay as they were, with all memory behind them, and answers share none with them.

func turn(b []byte) {
	b = b[:cap(b)]
	for i := range b {
		b[i] ^= 0xFF
	}
}

func TestReportsStayAsTheyWere(t *testing.T) {
	for _, n := range notes() {
		behind := append(slices.Clone(n.Counts), counts(77, 78, 79, 80)...)
		was := slices.Clone(behind)
		of := n
		of.Counts = behind[:len(n.Counts)]
		note.Right(of)
		note.Sum(of)
		note.Count(of, 1)
		note.Count(of, n.N)
		note.Put(of)
		of.N = 0
		note.Put(of)
		note.Sum(of)
		of.Counts = behind
		note.Right(of)
		note.Sum(of)
		note.Count(of, 77)
		if !slices.Equal(behind, was) {
			t.Error(n, behind)
		}
	}
}

func TestDatagramsAreNewMemory(t *testing.T) {
	for _, n := range notes() {
		n = copied(n)
		first, e := note.Put(n)
		again, f := note.Put(n)
		if e != api.OK || f != api.OK {
			t.Error(n, e, f)
		}
		want := bytes.Clone(again)
		turn(first)
		if !bytes.Equal(again, want) {
			t.Error("shared", n)
		}
		clear(n.Counts)
		if !bytes.Equal(again, want) {
			t.Error("kept", n)
		}
	}
}

func TestDatagramsStayAsTheyWere(t *testing.T) {
	for _, n := range notes() {
		b := seal(plain(n))
		back := slices.Concat([]byte{91, 92}, b, []byte{93, 94, 95, 96, 97, 98, 99})
		was := bytes.Clone(back)
		part := back[2 : 2+len(b)]
		one, e := note.Parse(part)
		two, f := note.Parse(part)
		if e != api.OK || f != api.OK || !bytes.Equal(back, was) {
			t.Error("changed", n, e, f)
		}
		clear(one.Counts[:cap(one.Counts)])
		if !bytes.Equal(back, was) || !same(two, n) {
			t.Error("shared", n)
		}
		turn(back)
		if !same(two, n) {
			t.Error("kept", n)
		}
		note.Parse(part)
		turn(back)
		if !bytes.Equal(back, was) {
			t.Error("changed where it is none", n)
		}
	}
}

// R4 and R6: one thing is answered alike each time, whatever came between; lists without elements are one.
func TestAlikeEachTime(t *testing.T) {
	none := api.Note{Stream: 1, Seq: 2, N: 3}
	for i := range 3 {
		for _, n := range notes() {
			b := put(t, n)
			roomy := append(make([]byte, 0, len(b)+1000), b...)
			fails(t, roomy, api.OK)
			fails(t, b[:3], api.ErrShape)
			fails(t, roomy[:len(b)-1], api.ErrSum)
			n.Counts = append(make([]api.Count, 0, 400), n.Counts...)
			put(t, n)
			n.Stream = -1
			refused(t, n)
		}
		empty := none
		empty.Counts = counts(1, 1)[:0]
		first, e := note.Put(none)
		other, f := note.Put(empty)
		if e != api.OK || f != api.OK || !bytes.Equal(first, other) || note.Sum(none) != note.Sum(empty) || note.Right(none) != note.Right(empty) {
			t.Error(i, first, e, other, f)
		}
	}
}
