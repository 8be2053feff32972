package plan_test

import (
	"slices"
	"testing"

	"hourglass/api"
	"hourglass/plan"
	"hourglass/size"
)

// R3: arguments stay as they were, with all memory behind them; what is handed out is new memory.

func TestArgumentsStayAsTheyWere(t *testing.T) {
	for _, budget := range []int{200, 100, 0, 1 << 19} {
		for _, first := range []int{40, 5, -1, 70000} {
			lens, worths, weights := []int{first, 60, 77, 78}, []int{3, 2, 87, 88}, []int{9, 8, 5, 1, 0, 97, 98}
			for many := range 5 {
				for _, last := range []int{4, 5, 6} {
					x := plan.Task{Bounds: size.Bounds{N: 4, MTU: 64, Budget: budget}, Lens: lens[:many], Worths: worths[:many], Weights: weights[:last]}
					plan.Right(x)
					plan.Best(x)
					plan.Score(x)
					if x.Bounds != (size.Bounds{N: 4, MTU: 64, Budget: budget}) || len(x.Lens) != many || len(x.Worths) != many || len(x.Weights) != last {
						t.Error(x)
					}
				}
			}
			if !slices.Equal(lens, []int{first, 60, 77, 78}) || !slices.Equal(worths, []int{3, 2, 87, 88}) || !slices.Equal(weights, []int{9, 8, 5, 1, 0, 97, 98}) {
				t.Error(lens, worths, weights)
			}
		}
	}
}

// One list may be all that is told.
func TestOneListForAll(t *testing.T) {
	all := []int{5, 5, 3}
	x := plan.Task{Bounds: size.Bounds{N: 2, MTU: 64, Budget: 2 * 32}, Lens: all[:2], Worths: all[:2], Weights: all}
	told(t, x, []int{1, 2}, 40, api.OK) // 5 + 3 of 8
	if !slices.Equal(all, []int{5, 5, 3}) {
		t.Error(all)
	}
}

func TestBestIsNewEachTime(t *testing.T) {
	x := task(4, 20, 30, 30)
	first, _ := plan.Best(x)
	was := slices.Clone(first)
	first = append(first, 5)
	clear(first)
	told(t, x, was, 3*60000-was[0]-was[1]-was[2], api.OK)
	second, _ := plan.Best(x)
	third, _ := plan.Best(x)
	clear(second)
	if !slices.Equal(third, was) {
		t.Error(was, third)
	}
	for _, list := range [][]int{x.Lens, x.Worths, x.Weights} {
		clear(list)
	}
	if !slices.Equal(third, was) {
		t.Error(was, third)
	}
}

// R4 and R6: one thing is answered alike each time, whatever came between, and whatever stands behind; lists without elements are one.
func TestAlikeEachTime(t *testing.T) {
	b := size.Bounds{N: 4, MTU: 64, Budget: 200}
	for range 3 {
		roomy := append(make([]int, 0, 100), 40, 60, 1, 1, 7, 7, 7, 7, 7, 9)
		x := plan.Task{Bounds: b, Lens: roomy[:2], Worths: roomy[2:4], Weights: roomy[4:9]}
		told(t, x, []int{4, 4}, 14, api.OK)
		x.Lens = []int{5, 20}
		told(t, x, []int{1, 1}, 14, api.OK)
		x.Lens = []int{45, 60}
		told(t, x, nil, 0, api.ErrInfeasible)
		x.Weights = roomy[4:]
		told(t, x, nil, 0, api.ErrArg)
		for _, none := range [][]int{nil, {}, roomy[:0]} {
			told(t, plan.Task{Bounds: b, Lens: none, Worths: none, Weights: roomy[4:9]}, nil, 0, api.ErrArg)
			told(t, plan.Task{Bounds: b, Lens: roomy[:2], Worths: none, Weights: roomy[4:9]}, nil, 0, api.ErrArg)
			told(t, plan.Task{Bounds: b, Lens: roomy[:2], Worths: roomy[2:4], Weights: none}, nil, 0, api.ErrArg)
		}
	}
}

// One thing is answered alike wherever it is asked: nothing is kept from call to call.
func TestManyAtOnce(t *testing.T) {
	x := task(30, 200, 300, 400)
	want, _ := plan.Best(x)
	done := make(chan []int)
	for range 8 {
		go func() {
			ks, _ := plan.Best(x)
			done <- ks
		}()
	}
	for range 8 {
		if ks := <-done; !slices.Equal(ks, want) {
			t.Error(ks, want)
		}
	}
}
