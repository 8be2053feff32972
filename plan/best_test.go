package plan_test

import (
	"slices"
	"testing"

	"hourglass/api"
	"hourglass/plan"
	"hourglass/size"
)

// P13.1: what is told of tasks that are right.

func TestTasksThatAreWrittenOut(t *testing.T) {
	b := size.Bounds{N: 4, MTU: 64, Budget: 200}
	alike, steep := []int{9, 9, 9, 9, 9}, []int{9, 8, 5, 1, 0}
	for i, x := range []struct {
		lens, worths, weights, ks []int
		score                     int
		e                         api.Errno
	}{
		{[]int{40, 60}, []int{1, 1}, alike, []int{4, 4}, 18, api.OK}, {[]int{5, 20}, []int{1, 1}, alike, []int{1, 1}, 18, api.OK}, {[]int{44, 60}, []int{1, 1}, alike, []int{4, 4}, 18, api.OK}, {[]int{45, 60}, []int{1, 1}, alike, nil, 0, api.ErrInfeasible}, {[]int{40, 65}, []int{1, 1}, alike, nil, 0, api.ErrInfeasible},
		{[]int{33, 60}, []int{1, 1}, alike, []int{3, 4}, 18, api.OK}, {[]int{34, 60}, []int{1, 1}, alike, []int{4, 4}, 18, api.OK}, {[]int{6, 20}, []int{1, 1}, alike, []int{1, 1}, 18, api.OK}, {[]int{7, 20}, []int{1, 1}, alike, []int{1, 2}, 18, api.OK}, {[]int{20, 20}, []int{1, 1}, alike, []int{1, 4}, 18, api.OK},
		{[]int{20, 20}, []int{1, 1}, steep, []int{2, 2}, 10, api.OK}, {[]int{20, 20}, []int{5, 1}, steep, []int{1, 4}, 40, api.OK}, {[]int{20, 20}, []int{1, 0}, steep, []int{1, 4}, 8, api.OK}, {[]int{20, 20}, []int{0, 1}, steep, []int{2, 2}, 5, api.OK}, {[]int{20, 20}, []int{0, 0}, steep, []int{1, 4}, 0, api.OK}, {[]int{20, 20}, []int{5, 3}, steep, []int{1, 4}, 40, api.OK}, {[]int{20, 20}, []int{5, 4}, steep, []int{2, 2}, 45, api.OK}, {[]int{20, 20}, []int{5, 2}, steep, []int{1, 4}, 40, api.OK},
		{[]int{0}, []int{3}, steep, []int{1}, 24, api.OK}, {[]int{29}, []int{3}, steep, []int{1}, 24, api.OK}, {[]int{30}, []int{3}, steep, []int{2}, 15, api.OK}, {[]int{58}, []int{3}, steep, []int{2}, 15, api.OK}, {[]int{59}, []int{3}, steep, []int{3}, 3, api.OK}, {[]int{88}, []int{3}, steep, []int{4}, 0, api.OK}, {[]int{116}, []int{3}, steep, []int{4}, 0, api.OK}, {[]int{117}, []int{3}, steep, nil, 0, api.ErrInfeasible},
		{[]int{0, 0, 0}, []int{3, 0, 0}, steep, []int{1, 1, 1}, 24, api.OK}, {[]int{0, 30, 0}, []int{1, 1, 1}, steep, []int{1, 2, 2}, 18, api.OK}, {make([]int, 8), slices.Repeat([]int{1 << 20}, 8), even(4, 65536), slices.Repeat([]int{1}, 8), 549755813888, api.OK},
		{slices.Repeat([]int{4}, 8), slices.Repeat([]int{1}, 8), steep, slices.Repeat([]int{4}, 8), 0, api.OK}, {slices.Repeat([]int{5}, 8), slices.Repeat([]int{1}, 8), steep, nil, 0, api.ErrInfeasible},
		{[]int{65535}, []int{1}, steep, nil, 0, api.ErrInfeasible}, {[]int{20}, []int{1, 1}, steep, nil, 0, api.ErrArg}, {[]int{20, 20}, []int{1}, steep, nil, 0, api.ErrArg}, {[]int{20}, []int{1}, steep[1:], nil, 0, api.ErrArg}, {nil, nil, steep, nil, 0, api.ErrArg},
	} {
		y := plan.Task{Bounds: b, Lens: x.lens, Worths: x.worths, Weights: x.weights}
		told(t, y, x.ks, x.score, x.e)
		if t.Failed() {
			t.Fatal(i)
		}
		judged(t, y)
	}
}

// All small tasks of some numbers.
func TestSmallTasks(t *testing.T) {
	for n, weights := range [][][]int{1: {{5, 5}, {5, 0}, {0, 0}}, 2: {{5, 5, 5}, {9, 5, 2}, {9, 2, 2}, {9, 1, 0}}, 3: {{7, 7, 7, 7}, {9, 6, 3, 1}, {9, 6, 6, 1}, {9, 6, 1, 1}, {9, 9, 0, 0}}} {
		for _, w := range weights {
			for _, one := range []int{0, 1, 7, 12, 13, 24, 60} {
				for _, two := range []int{0, 1, 6, 12, 25, 37} {
					for _, worths := range [][]int{{1, 1}, {2, 1}, {1, 2}, {0, 3}, {3, 0}, {0, 0}} {
						for each := 23; each <= 66; each += 3 {
							x := plan.Task{Bounds: size.Bounds{N: n, MTU: 64, Budget: each * n}, Lens: []int{one, two}, Worths: worths, Weights: w}
							tried(t, x)
						}
					}
				}
			}
		}
	}
}

// Tasks by a rule, of few datagrams, with from one to eight layers.
func TestTasksByARule(t *testing.T) {
	var d dice
	count := map[api.Errno]int{}
	for range 4000 {
		x := d.some(6, 4)
		tried(t, x)
		_, e := plan.Best(x)
		count[e]++
	}
	for range 600 {
		tried(t, d.some(4, 8))
	}
	for range 200 {
		x := d.some(12, 8)
		want, score, e := through(x)
		told(t, x, want, score, e)
	}
	if count[api.OK] < 1000 || count[api.ErrInfeasible] < 100 {
		t.Error(count)
	}
}

// Two or three layers of up to 255 datagrams.
func TestTasksOfManyDatagrams(t *testing.T) {
	d := dice(9)
	for _, n := range []int{60, 127, 128, 254, 255} {
		for layers := 1; layers <= 3; layers++ {
			for range 8 {
				x := d.some(1, 1)
				x.Bounds = size.Bounds{N: n, MTU: 64 + d.below(1437), Budget: min(1<<19, n*(80+d.below(1400)))}
				x.Lens, x.Worths, x.Weights = nil, nil, d.weights(n)
				for range layers {
					x.Lens, x.Worths = append(x.Lens, d.below([]int{50, 5000, 65536}[d.below(3)])), append(x.Worths, d.below(1<<20))
				}
				want, score, e := through(x)
				told(t, x, want, score, e)
			}
		}
	}
	x := plan.Task{Bounds: size.Bounds{N: 255, MTU: 1500, Budget: 1 << 19}, Lens: []int{65535, 4000, 65535}, Worths: []int{9, 50, 1}, Weights: fall(255, 65536)}
	want, score, e := through(x)
	told(t, x, want, score, e)
	if e != api.OK {
		t.Error(e)
	}
}

// The greatest tasks: no threshold of what is told may be a lesser one while the others stay.
func TestTheGreatestTasks(t *testing.T) {
	lens, worths := slices.Repeat([]int{65535}, 5), slices.Repeat([]int{1 << 20}, 5)
	for _, w := range [][]int{even(255, 65536), fall(255, 65536), fall(255, 255), even(255, 0)} {
		x := plan.Task{Bounds: size.Bounds{N: 255, MTU: 1500, Budget: 1 << 19}, Lens: lens, Worths: worths, Weights: w}
		ks, e := plan.Best(x)
		if e != api.OK || !size.Fits(x.Bounds, lens, ks) {
			t.Fatal(ks, e)
		}
		least := 1
		for place, k := range ks {
			for ; least < k; least++ {
				other := slices.Clone(ks)
				other[place] = least
				if size.Fits(x.Bounds, lens, other) {
					t.Error(ks, other)
				}
			}
		}
		x.Lens, x.Worths = append(slices.Clone(lens), 65535), append(slices.Clone(worths), 1)
		told(t, x, nil, 0, api.ErrInfeasible)
		x.Lens, x.Worths = slices.Repeat([]int{40000}, 8), slices.Repeat([]int{1 << 20}, 8)
		if ks, e := plan.Best(x); e != api.OK || !size.Fits(x.Bounds, x.Lens, ks) {
			t.Error(ks, e)
		}
	}
	x := plan.Task{Bounds: size.Bounds{N: 255, MTU: 1500, Budget: 1 << 19}, Lens: make([]int, 8), Worths: slices.Repeat([]int{1 << 20}, 8), Weights: even(255, 65536)}
	told(t, x, slices.Repeat([]int{1}, 8), 549755813888, api.OK)
}

// Where just thresholds that are all N fit, or all of them, or none.
func TestNoneOneAndAll(t *testing.T) {
	for _, n := range []int{1, 2, 3, 7, 100, 255} {
		for many := 1; many <= 8; many++ {
			rooms := (64 - 18 - 3*many) / many
			all, one, none := task(n, slices.Repeat([]int{rooms}, many)...), task(n, slices.Repeat([]int{rooms * n}, many)...), task(n, slices.Repeat([]int{rooms*n + 1}, many)...)
			for _, x := range []*plan.Task{&all, &one, &none} {
				x.Bounds.Budget = n * (18 + 3*many + many*rooms)
			}
			gain := 0
			for range many {
				gain += 60000 - n
			}
			told(t, one, slices.Repeat([]int{n}, many), gain, api.OK)
			told(t, all, slices.Repeat([]int{1}, many), many*59999, api.OK)
			told(t, none, nil, 0, api.ErrInfeasible)
			all.Bounds.Budget--
			one.Bounds.Budget--
			told(t, one, nil, 0, api.ErrInfeasible)
			if n > 1 {
				judgedInPart(t, all)
			}
		}
	}
}

// judgedInPart asks of a task of many datagrams, some of whose thresholds fit, whether those that are told do, and are not all 1.
func judgedInPart(t *testing.T, x plan.Task) {
	t.Helper()
	ks, e := plan.Best(x)
	if e != api.OK || !size.Fits(x.Bounds, x.Lens, ks) || slices.Max(ks) == 1 {
		t.Error(x, ks, e)
	}
}

// Just MTU bytes of a datagram, just Budget bytes of a frame.
func TestJustTheBytes(t *testing.T) {
	for long := range 200 {
		for _, b := range []size.Bounds{{N: 3, MTU: 64, Budget: 1 << 19}, {N: 3, MTU: 100, Budget: 1 << 19}, {N: 3, MTU: 1500, Budget: 3 * 64}, {N: 3, MTU: 1500, Budget: 3*64 + 2}, {N: 3, MTU: 1500, Budget: 3*65 - 3}, {N: 3, MTU: 1500, Budget: 60}, {N: 3, MTU: 1500, Budget: 1}} {
			for _, w := range [][]int{even(3, 5), fall(3, 5), {65536, 65536, 65536, 0}} {
				tried(t, plan.Task{Bounds: b, Lens: []int{long}, Worths: []int{2}, Weights: w})
				tried(t, plan.Task{Bounds: b, Lens: []int{long, 7}, Worths: []int{2, 3}, Weights: w})
				tried(t, plan.Task{Bounds: b, Lens: []int{7, long, 0}, Worths: []int{2, 3, 1}, Weights: w})
			}
		}
	}
}

// Of several thresholds of the same score the least ones are told, at each place.
func TestTheSameScore(t *testing.T) {
	for _, x := range []struct {
		lens, worths, weights, ks []int
		score                     int
	}{
		{[]int{12, 12, 12}, []int{1, 1, 1}, []int{9, 5, 5, 5, 5}, []int{1, 2, 3}, 15}, // 12 + 6 + 4 of 23
		{[]int{12, 12, 12}, []int{0, 0, 0}, []int{9, 5, 4, 3, 2}, []int{1, 2, 3}, 0},  // no worth
		{[]int{12, 12, 12}, []int{7, 7, 7}, []int{9, 0, 0, 0, 0}, []int{1, 2, 3}, 0},  // no weight
		{[]int{12, 12, 12}, []int{1, 1, 1}, []int{9, 5, 5, 5, 0}, []int{1, 2, 3}, 15},
		{[]int{12, 12, 12}, []int{1, 1, 1}, []int{9, 5, 5, 0, 0}, []int{2, 2, 2}, 15},
		{[]int{12, 12, 12}, []int{0, 1, 1}, []int{9, 5, 5, 0, 0}, []int{2, 2, 2}, 10},
		{[]int{12, 12, 12}, []int{1, 1, 0}, []int{9, 5, 5, 0, 0}, []int{1, 2, 3}, 10},
		{[]int{12, 12, 12}, []int{2, 1, 1}, []int{9, 4, 2, 2, 0}, []int{1, 2, 3}, 12},
		{[]int{24, 12, 6}, []int{1, 1, 1}, []int{9, 5, 5, 5, 5}, []int{2, 2, 2}, 15}, // 12 + 6 + 3; behind 24 is no room
		{[]int{23, 0, 0}, []int{1, 1, 1}, []int{9, 5, 5, 5, 5}, []int{1, 1, 1}, 15},
		{[]int{0, 23, 0}, []int{1, 1, 1}, []int{9, 5, 5, 5, 5}, []int{1, 1, 1}, 15},
		{[]int{0, 24, 0}, []int{1, 1, 1}, []int{9, 5, 5, 5, 5}, []int{1, 2, 2}, 15},
		{[]int{0, 0, 24}, []int{1, 1, 1}, []int{9, 5, 5, 5, 5}, []int{1, 1, 2}, 15},
		{[]int{0, 0, 92}, []int{1, 1, 1}, []int{9, 5, 5, 5, 5}, []int{1, 1, 4}, 15},
		{[]int{92, 0, 0}, []int{1, 1, 1}, []int{9, 5, 5, 5, 5}, []int{4, 4, 4}, 15},
	} {
		y := plan.Task{Bounds: size.Bounds{N: 4, MTU: 64, Budget: 200}, Lens: x.lens, Worths: x.worths, Weights: x.weights}
		told(t, y, x.ks, x.score, api.OK)
		tried(t, y)
	}
}

// A lesser score has lesser thresholds, and those it has are not told: be it less by one alone.
func TestALesserScoreOfLesserThresholds(t *testing.T) {
	b := size.Bounds{N: 4, MTU: 64, Budget: 200}
	for _, x := range []struct {
		worths, weights, ks []int
		score               int
	}{
		{[]int{1, 1}, []int{9, 8, 5, 1, 0}, []int{2, 2}, 10}, {[]int{1, 1}, []int{65536, 65536, 65536, 65536, 65535}, []int{2, 2}, 131072}, {[]int{1, 1}, []int{65536, 65536, 65536, 65536, 65536}, []int{1, 4}, 131072}, {[]int{1, 1 << 20}, []int{65536, 65536, 65535, 65535, 65534}, []int{2, 2}, 65535 + 65535<<20}, {[]int{1 << 20, 1}, []int{65536, 65536, 65535, 65535, 65534}, []int{1, 4}, 65536<<20 + 65534},
	} {
		y := plan.Task{Bounds: b, Lens: []int{20, 20}, Worths: x.worths, Weights: x.weights}
		if !size.Fits(b, y.Lens, []int{1, 4}) || !size.Fits(b, y.Lens, []int{2, 2}) {
			t.Error("both fit")
		}
		told(t, y, x.ks, x.score, api.OK)
		tried(t, y)
	}
}

// Layers without bytes need no room: each has the threshold of the one ahead.
func TestLayersWithoutBytes(t *testing.T) {
	for _, n := range []int{1, 2, 4, 255} {
		for many := 1; many <= 8; many++ {
			x := task(n, make([]int, many)...)
			told(t, x, slices.Repeat([]int{1}, many), many*59999, api.OK)
			x.Bounds.Budget = n * (18 + 3*many)
			told(t, x, slices.Repeat([]int{1}, many), many*59999, api.OK)
			for place := range many {
				x.Lens[place] = 1
				told(t, x, nil, 0, api.ErrInfeasible)
				x.Lens[place] = 0
			}
			x.Bounds.Budget--
			told(t, x, nil, 0, api.ErrInfeasible)
		}
	}
	for place := range 3 {
		x := task(4, 0, 0, 0)
		x.Bounds.Budget, x.Lens[place] = 4*(27+10), 25
		want := []int{1, 1, 1}
		for last := place; last < 3; last++ {
			want[last] = 3
		}
		told(t, x, want, 60000*3-want[0]-want[1]-want[2], api.OK)
		tried(t, x)
	}
}

// However many layers, thresholds at each place are as they were told when all were gone through.
func TestEachManyLayers(t *testing.T) {
	for many := 1; many <= 8; many++ {
		for n := 1; n <= 5; n++ {
			for _, w := range [][]int{even(n, 4), fall(n, n), fall(n, 65536), append(even(n-1, 7), 0)} {
				for step := range 6 {
					x := task(n, span(many, step*n)...)
					slices.Reverse(x.Lens[:many/2])
					x.Worths, x.Weights = span(many, step), w
					tried(t, x)
				}
			}
		}
	}
}
