package head_test

import (
	"bytes"
	"slices"
	"testing"

	"hourglass/api"
	"hourglass/head"
)

// R3: arguments stay as they were, with all memory behind them, and answers share none with them.

func turn(b []byte) {
	b = b[:cap(b)]
	for i := range b {
		b[i] ^= 0xFF
	}
}

func TestHeadersStayAsTheyWere(t *testing.T) {
	for _, h := range small() {
		behind := append(slices.Clone(h.Rows), rows(77, 78, 79, 80)...)
		was := slices.Clone(behind)
		of := h
		of.Rows = behind[:len(h.Rows)]
		head.Right(of)
		head.Like(of, h)
		head.Like(h, of)
		head.Like(of, of)
		head.Put(of, whole(of, 1))
		head.Put(of, nil)
		of.N = 0
		head.Put(of, whole(of, 1))
		of.Rows = behind
		head.Right(of)
		if !slices.Equal(behind, was) {
			t.Error(h, behind)
		}
	}
}

func TestBodiesStayAsTheyWere(t *testing.T) {
	for _, h := range small() {
		body := whole(h, 2)
		back := slices.Concat([]byte{91, 92}, body, []byte{93, 94, 95, 96, 97, 98, 99})
		was := bytes.Clone(back)
		part := back[2 : 2+len(body)]
		first, e := head.Put(h, part)
		again, f := head.Put(h, part)
		if e != api.OK || f != api.OK || !bytes.Equal(back, was) {
			t.Error("changed", h, e, f)
		}
		want := bytes.Clone(again)
		turn(first)
		if !bytes.Equal(back, was) || !bytes.Equal(again, want) {
			t.Error("shared", h)
		}
		turn(back)
		clear(h.Rows)
		if !bytes.Equal(again, want) {
			t.Error("kept", h)
		}
	}
}

func TestDatagramsStayAsTheyWere(t *testing.T) {
	for _, h := range small() {
		body := whole(h, 3)
		b := seal(plain(h, body))
		back := slices.Concat([]byte{91, 92}, b, []byte{93, 94, 95, 96, 97, 98, 99})
		was := bytes.Clone(back)
		part := back[2 : 2+len(b)]
		one, first, e := head.Parse(part)
		two, again, f := head.Parse(part)
		if e != api.OK || f != api.OK || !bytes.Equal(back, was) {
			t.Error("changed", h, e, f)
		}
		turn(first)
		clear(one.Rows[:cap(one.Rows)])
		if !bytes.Equal(back, was) || !bytes.Equal(again, body) || !same(two, h) {
			t.Error("shared", h)
		}
		turn(back)
		if !bytes.Equal(again, body) || !same(two, h) {
			t.Error("kept", h)
		}
		head.Parse(part)
		turn(back)
		if !bytes.Equal(back, was) {
			t.Error("changed where it is none", h)
		}
	}
}

// What stands behind an answer is nothing of what was given.
func TestAnswersMayBeMadeLonger(t *testing.T) {
	h := good()
	b := put(t, h, whole(h, 4))
	again, body, _ := head.Parse(b)
	rest, inner, _ := head.Parse(b)
	_ = append(body, 201, 202, 203, 204, 205)
	_ = append(again.Rows, rows(1, 2, 3, 4)...)
	if !same(rest, h) || !bytes.Equal(inner, whole(h, 4)) || !bytes.Equal(body, inner) || !same(again, h) {
		t.Error(rest, again)
	}
	for _, x := range body[len(body):cap(body)] {
		if x != 0 {
			t.Error("bytes behind the body", body[:cap(body)])
			break
		}
	}
}

// R4 and R6: one thing is answered alike each time, whatever came between; lists without elements are one.
func TestAlikeEachTime(t *testing.T) {
	none := api.Head{Stream: 1, Frame: 2, Index: 0, N: 1, Deadline: 3, Rows: rows(1, 0)}
	for i := range 3 {
		for seed, h := range small() {
			b := put(t, h, whole(h, seed))
			roomy := append(make([]byte, 0, len(b)+1000), b...)
			parsed(t, roomy)
			refused(t, h, some(long(h.Rows)+1, 1))
			fails(t, b[:3], api.ErrShape)
			fails(t, roomy[:len(b)-1], api.ErrSum)
			put(t, h, append(make([]byte, 0, 2000), whole(h, seed)...))
		}
		first, e := head.Put(none, nil)
		other, f := head.Put(none, []byte{})
		if e != api.OK || f != api.OK || !bytes.Equal(first, other) {
			t.Error(i, first, e, other, f)
		}
	}
}
