package plan_test

import (
	"slices"
	"testing"

	"hourglass/api"
	"hourglass/plan"
	"hourglass/size"
	"hourglass/weigh"
)

// walk goes through all thresholds of so many layers, from 1 to n, none below the one ahead, in order.
func walk(n, layers int, visit func(ks []int)) {
	ks := make([]int, layers)
	var put func(place, least int)
	put = func(place, least int) {
		if place == layers {
			visit(ks)
			return
		}
		for k := least; k <= n; k++ {
			ks[place] = k
			put(place+1, k)
		}
	}
	put(0, 1)
}

// wide is how long a stripe is: the least one of which k times are not below the length.
func wide(long, k int) int {
	w := long / k
	if w*k < long {
		w++
	}
	return w
}

// through is what is to be told of a right task, by going through all thresholds, word by word: the first ones of the greatest score; what does not fit any more is left, with all behind it.
func through(t plan.Task) ([]int, int, api.Errno) {
	layers, n := len(t.Lens), t.Bounds.N
	var best []int
	most, ks := -1, make([]int, layers)
	var put func(place, least, big, score int)
	put = func(place, least, big, score int) {
		if big > t.Bounds.MTU || n*big > t.Bounds.Budget {
			return
		}
		if place == layers {
			if score > most {
				most, best = score, slices.Clone(ks)
			}
			return
		}
		for k := least; k <= n; k++ {
			ks[place] = k
			put(place+1, k, big+wide(t.Lens[place], k), score+t.Worths[place]*t.Weights[k])
		}
	}
	put(0, 1, 18+3*layers, 0)
	if most < 0 {
		return nil, 0, api.ErrInfeasible
	}
	return best, most, api.OK
}

// asked is what is to be told of a right task, by asking size and weigh of all thresholds.
func asked(t *testing.T, x plan.Task) ([]int, int, api.Errno) {
	t.Helper()
	var best []int
	walk(x.Bounds.N, len(x.Lens), func(ks []int) {
		if !size.Fits(x.Bounds, x.Lens, ks) {
			return
		}
		if best == nil {
			best = slices.Clone(ks)
			return
		}
		is, e := weigh.Better(x.Worths, ks, best, x.Weights)
		if e != api.OK {
			t.Error(x, ks, best, e)
		}
		if is {
			copy(best, ks)
		}
	})
	if best == nil {
		return nil, 0, api.ErrInfeasible
	}
	score, e := weigh.Score(x.Worths, best, x.Weights)
	return best, score, e
}

// tried holds what is told of a right task against both.
func tried(t *testing.T, x plan.Task) {
	t.Helper()
	want, score, e := asked(t, x)
	told(t, x, want, score, e)
	again, most, f := through(x)
	if !slices.Equal(want, again) || score != most || e != f {
		t.Error(x, want, score, e, again, most, f)
	}
}

// dice answers numbers by a rule, each from 0 to one less than it is asked.
type dice uint32

func (d *dice) below(sides int) int {
	*d = *d*1664525 + 1013904223
	return int(uint64(*d) * uint64(sides) >> 32)
}

// some is a task by a rule: of at most so many datagrams and layers, of rooms about what the layers need.
func (d *dice) some(n, layers int) plan.Task {
	many := 1 + d.below(layers)
	x := plan.Task{Bounds: size.Bounds{N: 1 + d.below(n)}, Lens: make([]int, many), Worths: make([]int, many)}
	long, need := 1+d.below(30*x.Bounds.N), 0
	for place := range many {
		x.Lens[place], x.Worths[place] = d.below(long), d.below(1+[]int{0, 1, 3, 1000, 1 << 20}[d.below(5)])
		need += x.Lens[place]
	}
	room := need/x.Bounds.N + d.below(1+need) + d.below(many+2)
	if d.below(4) == 0 {
		room = d.below(need/x.Bounds.N + many + 1) // for some too little
	}
	x.Bounds.MTU, x.Bounds.Budget = 64+d.below(150), min(1<<19, x.Bounds.N*(18+3*many+room)+d.below(x.Bounds.N))
	if d.below(2) == 0 {
		x.Bounds.MTU = max(64, min(1500, 18+3*many+room))
	}
	x.Weights = d.weights(x.Bounds.N)
	return x
}

// weights are n + 1 of them, by a rule.
func (d *dice) weights(n int) []int {
	w, weight, fall := make([]int, n+1), 65536-d.below(3), 1+[]int{0, 1, 2, 65536 / n, 1000}[d.below(5)]
	for place := range w {
		w[place] = weight
		weight = max(0, weight-d.below(2)*d.below(fall))
	}
	return w
}
