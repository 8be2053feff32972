package size_test

import (
	"slices"
	"testing"

	"hourglass/api"
	"hourglass/size"
)

// R3: arguments stay as they were, with all memory behind them.

func TestArgumentsStayAsTheyWere(t *testing.T) {
	for _, b := range []size.Bounds{{N: 4, MTU: 64, Budget: 200}, {N: 4, MTU: 64, Budget: 100}, {N: 0, MTU: 64, Budget: 200}, {N: 255, MTU: 1500, Budget: 1 << 19}} {
		for _, first := range []int{40, 45, -1, 70000} {
			lens, ks, table := []int{first, 60, 77, 78}, []int{4, 4, 87, 88}, rows(4, first, 4, 60, 97, 98)
			for many := range 5 {
				size.Fits(b, lens[:many], ks[:many])
				size.Fits(b, lens[:many], ks[:2])
				size.Fits(b, lens, ks[:many])
				size.Can(b, lens[:many]...)
			}
			for many := range 4 {
				size.Of(b.N, table[:many])
			}
			if !slices.Equal(lens, []int{first, 60, 77, 78}) || !slices.Equal(ks, []int{4, 4, 87, 88}) || !slices.Equal(table, rows(4, first, 4, 60, 97, 98)) {
				t.Error(b, lens, ks, table)
			}
		}
	}
}

// One list may be lengths and thresholds both.
func TestOneListTwice(t *testing.T) {
	b, both := size.Bounds{N: 4, MTU: 64, Budget: 200}, []int{1, 2, 4}
	if !size.Fits(b, both, both) || !slices.Equal(both, []int{1, 2, 4}) {
		t.Error(both)
	}
}

// R4 and R6: one thing is answered alike each time, whatever came between, and whatever stands behind; lists without elements are one.
func TestAlikeEachTime(t *testing.T) {
	b := size.Bounds{N: 4, MTU: 64, Budget: 200}
	for range 3 {
		roomy := append(make([]int, 0, 100), 40, 60, 4, 4)
		if !size.Fits(b, roomy[:2], roomy[2:]) || !size.Can(b, roomy[:2]...) || size.Fits(b, roomy[:2], []int{3, 4}) || size.Can(b, 45, 60) {
			t.Error("fits")
		}
		if left, e := size.Room(b, 2); left != 26 || e != api.OK {
			t.Error(left, e)
		}
		if left, e := size.Room(b, 9); left != 0 || e != api.ErrArg {
			t.Error(left, e)
		}
		if one, e := size.Of(4, rows(4, 40, 4, 60)); one != 49 || e != api.OK {
			t.Error(one, e)
		}
		if one, e := size.Of(4, rows(4, 40, 3, 60)); one != 0 || e != api.ErrArg {
			t.Error(one, e)
		}
		if size.Can(b) || size.Can(b, roomy[:0]...) || size.Fits(b, nil, nil) || size.Fits(b, roomy[:0], nil) || size.Fits(b, nil, []int{}) {
			t.Error("none")
		}
	}
}
