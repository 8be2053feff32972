package plan_test

import (
	"slices"
	"testing"

	"hourglass/api"
	"hourglass/plan"
	"hourglass/size"
	"hourglass/weigh"
)

// P13.2

// No thresholds that fit are better; it is ErrInfeasible just if those that are all N do not fit.
func TestNoneThatFitAreBetter(t *testing.T) {
	d := dice(3)
	for range 1000 {
		x := d.some(5, 5)
		ks, e := plan.Best(x)
		score, f := plan.Score(x)
		can := size.Fits(x.Bounds, x.Lens, slices.Repeat([]int{x.Bounds.N}, len(x.Lens)))
		if e != f || can != (e == api.OK) || !can && e != api.ErrInfeasible {
			t.Error(x, ks, e, f, can)
		}
		if can && !size.Fits(x.Bounds, x.Lens, ks) {
			t.Error(x, ks)
		}
		if is, g := weigh.Score(x.Worths, ks, x.Weights); can && (is != score || g != api.OK) {
			t.Error(x, ks, score, is, g)
		}
		walk(x.Bounds.N, len(x.Lens), func(other []int) {
			if !size.Fits(x.Bounds, x.Lens, other) {
				return
			}
			if is, g := weigh.Better(x.Worths, other, ks, x.Weights); is || g != api.OK {
				t.Error(x, ks, other, g)
			}
		})
	}
}

// With a greater MTU, or budget, the score is no smaller, and what fits, fits.
func TestAGreaterMTUAndBudget(t *testing.T) {
	d := dice(4)
	for range 300 {
		x := d.some(40, 8)
		was, e := plan.Score(x)
		for range 6 {
			y := copied(x)
			if d.below(2) == 0 {
				y.Bounds.MTU += d.below(1501 - y.Bounds.MTU)
			} else {
				y.Bounds.Budget += d.below(1 + min(1<<19-y.Bounds.Budget, 20*y.Bounds.N))
			}
			now, f := plan.Score(y)
			if now < was || e == api.OK && f != api.OK {
				t.Error(x, y, was, now, e, f)
			}
			x, was, e = y, now, f
		}
	}
}

// The score grows where the room does, up to all of what there is.
func TestTheScoreGrows(t *testing.T) {
	for _, n := range []int{3, 100} {
		x := task(n, 20, 30, 12)
		x.Weights = fall(n, n)
		was, steps := 0, 0
		for each := 1; each <= 100; each++ {
			x.Bounds.MTU, x.Bounds.Budget = 1500, n*each
			now, e := plan.Score(x)
			if now < was || e == api.ErrArg {
				t.Error(n, each, was, now, e)
			}
			if now > was {
				steps++
			}
			was = now
		}
		if was != 3*(n-1) || steps < 3 {
			t.Error(n, was, steps)
		}
	}
}

// With weights that are all alike the best ones are the least that fit.
func TestWeightsThatAreAllAlike(t *testing.T) {
	d := dice(5)
	for range 1000 {
		x := d.some(6, 5)
		x.Weights = even(x.Bounds.N, []int{0, 1, 40000, 65536}[d.below(4)])
		var least []int
		walk(x.Bounds.N, len(x.Lens), func(ks []int) {
			if least == nil && size.Fits(x.Bounds, x.Lens, ks) {
				least = slices.Clone(ks)
			}
		})
		if ks, e := plan.Best(x); !slices.Equal(ks, least) || (e == api.OK) != (least != nil) {
			t.Error(x, ks, e, least)
		}
		all := 0
		for _, worth := range x.Worths {
			all += worth * x.Weights[0]
		}
		if score, e := plan.Score(x); e == api.OK && score != all {
			t.Error(x, score, all)
		}
	}
}
