package weigh_test

import (
	"slices"
	"testing"

	"hourglass/api"
	"hourglass/weigh"
)

// R3: arguments stay as they were, with all memory behind them; what is handed out is new memory.

func TestArgumentsStayAsTheyWere(t *testing.T) {
	for _, first := range []int{9, 4, -1, 70000} {
		worths, ks, other, w := []int{2, 1, 77, 78}, []int{1, 3, 87, 88}, []int{3, 1, 97, 98}, []int{first, 5, 5, 3, 67, 68}
		for many := range 5 {
			weigh.Score(worths[:many], ks[:many], w[:4])
			weigh.Score(worths[:2], ks[:2], w[:many])
			weigh.Better(worths[:many], ks[:many], other[:many], w[:4])
			weigh.Better(worths[:2], ks[:2], other[:2], w[:many])
			weigh.Better(worths[:2], ks[:2], other[:many], w[:4])
			weigh.Better(worths[:2], other[:2], ks[:2], w[:4])
			weigh.Right(many, w[:many])
			weigh.Right(many, w[:many+1])
		}
		if !slices.Equal(worths, []int{2, 1, 77, 78}) || !slices.Equal(ks, []int{1, 3, 87, 88}) || !slices.Equal(other, []int{3, 1, 97, 98}) || !slices.Equal(w, []int{first, 5, 5, 3, 67, 68}) {
			t.Error(worths, ks, other, w)
		}
	}
}

// One list may be all that is told.
func TestOneListForAll(t *testing.T) {
	all := []int{3, 2, 1}
	if s, e := weigh.Score(all[1:], all[1:], all); s != 2*1+1*2 || e != api.OK {
		t.Error(s, e)
	}
	if is, e := weigh.Better(all[1:], all[1:], all[1:], all); is || e != api.OK {
		t.Error(is, e)
	}
	if !slices.Equal(all, []int{3, 2, 1}) {
		t.Error(all)
	}
}

func TestEvenIsNewEachTime(t *testing.T) {
	for _, n := range []int{1, 2, 255} {
		was, _ := weigh.Even(n)
		was = append(was, 5)
		clear(was)
		now, e := weigh.Even(n)
		if e != api.OK || !slices.Equal(now, slices.Repeat([]int{65536}, n+1)) || slices.Max(was) != 0 {
			t.Error(n, was, now, e)
		}
	}
}

// R4 and R6: one thing is answered alike each time, whatever came between, and whatever stands behind; lists without elements are one.
func TestAlikeEachTime(t *testing.T) {
	for range 3 {
		roomy := append(make([]int, 0, 100), 9, 5, 5, 3, 8)
		if !weigh.Right(3, roomy[:4]) || weigh.Right(4, roomy) || weigh.Right(3, roomy) {
			t.Error("right")
		}
		if s, e := weigh.Score([]int{2, 1}, []int{1, 3}, roomy[:4]); s != 13 || e != api.OK {
			t.Error(s, e)
		}
		if s, e := weigh.Score([]int{2, 1}, []int{1, 3}, roomy); s != 0 || e != api.ErrArg {
			t.Error(s, e)
		}
		if is, e := weigh.Better([]int{2, 1}, []int{1, 3}, []int{3, 1}, roomy[:4]); !is || e != api.OK {
			t.Error(is, e)
		}
		if is, e := weigh.Better([]int{2, 1}, []int{1, 3}, []int{3, 0}, roomy[:4]); is || e != api.ErrArg {
			t.Error(is, e)
		}
		for _, none := range [][]int{nil, {}, roomy[:0]} {
			if s, e := weigh.Score(none, nil, roomy[:4]); s != 0 || e != api.OK {
				t.Error(s, e)
			}
			if is, e := weigh.Better(nil, none, []int{}, roomy[:4]); is || e != api.OK {
				t.Error(is, e)
			}
			if s, e := weigh.Score(nil, nil, none); s != 0 || e != api.ErrArg || weigh.Right(-1, none) || weigh.Right(0, none) {
				t.Error(s, e)
			}
		}
	}
}
