package plan_test

import (
	"math"
	"slices"
	"testing"

	"hourglass/api"
	"hourglass/plan"
	"hourglass/size"
)

// The calls, as the chapter has them.
var (
	_ func(t plan.Task) bool               = plan.Right
	_ func(t plan.Task) ([]int, api.Errno) = plan.Best
	_ func(t plan.Task) (int, api.Errno)   = plan.Score
	_                                      = plan.Task{Bounds: size.Bounds{}, Lens: []int{}, Worths: []int{}, Weights: []int{}}
)

// rightTask says whether a task is, word by word; it knows no package but the words of the chapters.
func rightTask(t plan.Task) bool {
	b, layers := t.Bounds, len(t.Lens)
	is := 1 <= b.N && b.N <= 255 && 64 <= b.MTU && b.MTU <= 1500 && 1 <= b.Budget && b.Budget <= 524288
	is = is && 1 <= layers && layers <= 8 && len(t.Worths) == layers && len(t.Weights) == b.N+1
	for _, long := range t.Lens {
		is = is && 0 <= long && long <= 65535
	}
	for _, worth := range t.Worths {
		is = is && 0 <= worth && worth <= 1048576
	}
	for place, weight := range t.Weights {
		is = is && 0 <= weight && weight <= 65536 && (place == 0 || weight <= t.Weights[place-1])
	}
	return is
}

// task is one of so many datagrams, as the example has it else, with room for each sort of thresholds.
func task(n int, lens ...int) plan.Task {
	return plan.Task{Bounds: size.Bounds{N: n, MTU: 64, Budget: 50 * n}, Lens: lens, Worths: slices.Repeat([]int{1}, len(lens)), Weights: fall(n, 60000)}
}

// fall are n + 1 weights, each one less than the one ahead, from a first one on.
func fall(n, first int) []int {
	w := make([]int, max(0, n+1))
	for place := range w {
		w[place] = first - place
	}
	return w
}

// even are n + 1 weights that are all alike.
func even(n, weight int) []int { return slices.Repeat([]int{weight}, max(0, n+1)) }

// span are so many numbers, each one more than the one ahead, from a first one on.
func span(many, first int) []int {
	out := make([]int, many)
	for place := range out {
		out[place] = first + place
	}
	return out
}

// copied is a task of lists of its own.
func copied(t plan.Task) plan.Task {
	return plan.Task{Bounds: t.Bounds, Lens: slices.Clone(t.Lens), Worths: slices.Clone(t.Worths), Weights: slices.Clone(t.Weights)}
}

// told asks all calls what they tell of a task.
func told(t *testing.T, x plan.Task, want []int, score int, e api.Errno) {
	t.Helper()
	ks, e1 := plan.Best(x)
	s, e2 := plan.Score(x)
	if !slices.Equal(ks, want) || s != score || e1 != e || e2 != e || e != api.OK && ks != nil {
		t.Errorf("%v: %v %d, %d %d, not %v, %d, %d", x, ks, e1, s, e2, want, score, e)
	}
	if is := plan.Right(x); is != (e != api.ErrArg) {
		t.Errorf("%v: %v", x, is)
	}
}

// judged asks whether a task is right, and whether the errors are such.
func judged(t *testing.T, x plan.Task) {
	t.Helper()
	is := rightTask(x)
	if plan.Right(x) != is {
		t.Errorf("%v: not %v", x, is)
	}
	if !is {
		told(t, x, nil, 0, api.ErrArg)
		return
	}
	want, score, e := through(x)
	told(t, x, want, score, e)
}

// far are numbers that are below or above all that may be; among them such as are right ones when they are cut.
var far = []int{-1, -2, -4, -63, -64, -255, -256, -65535, -65536, 1<<20 + 1, 1<<20 + 2, 1<<24 + 64, 1<<31 - 1, 1 << 31, 1<<31 + 1, 1 << 32, 1<<32 + 1, 1<<32 + 4, 1<<32 + 64, 1<<32 + 200, 4 - 1<<32, 64 - 1<<32, -1 << 31, 1 << 62, math.MaxInt - 1, math.MaxInt, math.MinInt, math.MinInt + 1, math.MinInt + 4, math.MinInt + 64}

var (
	wrongNs      = slices.Concat(far, []int{0, 256, 257, 260, 511, 512, 65536, 65540})
	wrongMTUs    = slices.Concat(far, []int{0, 1, 62, 63, 1501, 1502, 65536, 65600})
	wrongBudgets = slices.Concat(far, []int{0, 1<<19 + 1, 1<<19 + 2, 1<<19 + 200})
	wrongLengths = slices.Concat(far, []int{65536, 65537, 131072})
	wrongWorths  = far
	wrongWeights = slices.Concat(far, []int{65537, 65538, 131072, 1 << 20})
)

func TestLimitsAndErrorsByTheirNumbers(t *testing.T) {
	if api.MaxN != 255 || api.MinMTU != 64 || api.MaxMTU != 1500 || api.MaxBudget != 524288 || api.MaxLayers != 8 || api.MaxLayer != 65535 || api.MaxWorth != 1048576 || api.One != 65536 || api.OK != 0 || api.ErrArg != 2 || api.ErrInfeasible != 12 {
		t.Error(api.MaxN, api.MinMTU, api.MaxMTU, api.MaxBudget, api.MaxLayers, api.MaxLayer, api.MaxWorth, api.One, api.OK, api.ErrArg, api.ErrInfeasible)
	}
}

func TestExample(t *testing.T) {
	x := plan.Task{Bounds: size.Bounds{N: 4, MTU: 64, Budget: 200}, Lens: []int{40, 60}, Worths: []int{1, 1}, Weights: even(4, 7)}
	told(t, x, []int{4, 4}, 14, api.OK)
	x.Lens = []int{5, 20}
	told(t, x, []int{1, 1}, 14, api.OK)
}

// P13.1: which tasks are right; of those that are not there is nothing to be told.

func TestBoundsAtTheirEnds(t *testing.T) {
	for _, n := range []int{-1, 0, 1, 2, 4, 254, 255, 256, 257} {
		for _, mtu := range []int{-1, 0, 62, 63, 64, 65, 1499, 1500, 1501, 1502} {
			for _, budget := range []int{-1, 0, 1, 2, 200, 1<<19 - 1, 1 << 19, 1<<19 + 1, 1<<19 + 2} {
				x := task(n, 40)
				x.Bounds.MTU, x.Bounds.Budget = mtu, budget
				judged(t, x)
			}
		}
	}
}

func TestBoundsThatAreNone(t *testing.T) {
	for _, n := range wrongNs {
		for _, many := range []int{0, 1, 4, 5, 255, 256, 257} {
			x := task(4, 5, 20)
			x.Bounds.N, x.Weights = n, even(many-1, 9)
			told(t, x, nil, 0, api.ErrArg)
		}
	}
	for _, mtu := range wrongMTUs {
		x := task(4, 5, 20)
		x.Bounds.MTU = mtu
		told(t, x, nil, 0, api.ErrArg)
	}
	for _, budget := range wrongBudgets {
		x := task(4, 5, 20)
		x.Bounds.Budget = budget
		told(t, x, nil, 0, api.ErrArg)
	}
	for _, number := range far {
		x := task(4, 5, 20)
		x.Bounds = size.Bounds{N: number, MTU: number, Budget: number}
		told(t, x, nil, 0, api.ErrArg)
	}
}

func TestAsManyLayers(t *testing.T) {
	for many := range 20 {
		for _, worths := range []int{0, 1, many - 2, many - 1, many, many + 1, many + 2, 7, 8, 9} {
			x := task(4, make([]int, many)...)
			x.Worths = make([]int, max(0, worths))
			judged(t, x)
		}
		told(t, plan.Task{Bounds: size.Bounds{N: 4, MTU: 64, Budget: 200}, Weights: even(many, 9)}, nil, 0, api.ErrArg)
	}
	for _, many := range []int{255, 256, 257, 264, 65536, 65537, 65544} {
		judged(t, task(4, make([]int, many)...))
	}
	for _, none := range [][]int{nil, {}} {
		x := task(4, 5)
		x.Lens = none
		told(t, x, nil, 0, api.ErrArg)
		x.Worths = none
		told(t, x, nil, 0, api.ErrArg)
		x = task(4, 5)
		x.Worths = none
		told(t, x, nil, 0, api.ErrArg)
		x = task(4, 5)
		x.Weights = none
		told(t, x, nil, 0, api.ErrArg)
	}
	told(t, plan.Task{}, nil, 0, api.ErrArg)
}

func TestLengthsAndWorthsAtEachPlace(t *testing.T) {
	for many := 1; many <= 8; many++ {
		for place := range many {
			for _, long := range slices.Concat(wrongLengths, []int{0, 1, 2, 65534, 65535}) {
				x := task(3, make([]int, many)...)
				x.Lens[place] = long
				judged(t, x)
			}
			for _, worth := range slices.Concat(wrongWorths, []int{0, 1, 2, 65536, 65537, 1<<20 - 1, 1 << 20}) {
				x := task(3, span(many, 1)...)
				x.Worths[place] = worth
				judged(t, x)
			}
		}
	}
}

func TestAsManyWeights(t *testing.T) {
	for n := 1; n <= 255; n++ {
		for _, many := range []int{0, 1, 2, n - 2, n - 1, n, n + 1, n + 2, n + 3, 256, 257, 512} {
			x := task(n, 9)
			x.Weights = slices.Repeat([]int{7}, max(0, many))
			judged(t, x)
		}
		judged(t, task(n, 3*n, 5*n))
	}
}

// Weights are right or wrong whether a threshold has them or not: that of no datagrams, too.
func TestWeightsAtEachPlace(t *testing.T) {
	for _, n := range []int{1, 2, 4, 100, 255} {
		for place := range n + 1 {
			for _, weight := range slices.Concat(wrongWeights, []int{0, 1, 59999, 60000, 60001, 65535, 65536}) {
				x := task(n, 1)
				x.Weights = even(n, 60000)
				x.Weights[place] = weight
				judged(t, x)
			}
		}
	}
	for _, w := range [][]int{{0, 0, 0, 0, 0}, {65536, 65536, 65536, 65536, 65536}, {65536, 0, 0, 0, 0}, {65537, 65536, 65536, 65536, 65536}, {65536, 65537, 1, 1, 1}, {1, 2, 3, 4, 5}, {5, 5, 5, 5, 6}, {5, 6, 5, 5, 5}, {-1, -1, -1, -1, -1}, {1, 1, 1, 1, -1}, {5, 4, 3, 2, 1}} {
		x := task(4, 30, 30)
		x.Weights = w
		judged(t, x)
	}
}

// However great the numbers are, wherever they stand.
func TestTheGreatestNumbers(t *testing.T) {
	for _, number := range []int{math.MaxInt, math.MaxInt - 1, 1 << 62, 1 << 47, math.MinInt, math.MinInt + 1, -1 << 62} {
		for many := 1; many <= 9; many++ {
			row := slices.Repeat([]int{number}, many)
			for _, put := range []func(x *plan.Task){
				func(x *plan.Task) { x.Lens = row },
				func(x *plan.Task) { x.Worths = row },
				func(x *plan.Task) { x.Weights = even(4, number) },
				func(x *plan.Task) { x.Weights = row },
				func(x *plan.Task) { x.Bounds.N = number },
				func(x *plan.Task) { x.Bounds.MTU = number },
				func(x *plan.Task) { x.Bounds.Budget = number },
				func(x *plan.Task) { x.Lens, x.Worths = row, row },
				func(x *plan.Task) {
					*x = plan.Task{Bounds: size.Bounds{N: number, MTU: number, Budget: number}, Lens: row, Worths: row, Weights: row}
				},
			} {
				x := task(4, make([]int, many)...)
				put(&x)
				told(t, x, nil, 0, api.ErrArg)
			}
		}
	}
}

// A task that is not right counts ahead of one of which no thresholds fit.
func TestTheOrderOfTheErrors(t *testing.T) {
	x := task(4, 1000, 1000)
	told(t, x, nil, 0, api.ErrInfeasible)
	for _, wrong := range []func(x *plan.Task){
		func(x *plan.Task) { x.Worths = x.Worths[:1] },
		func(x *plan.Task) { x.Worths[1] = -1 },
		func(x *plan.Task) { x.Weights = x.Weights[:4] },
		func(x *plan.Task) { x.Weights[4] = 65536 },
		func(x *plan.Task) { x.Lens[1] = 65536 },
		func(x *plan.Task) { x.Bounds.MTU = 63 },
		func(x *plan.Task) { x.Bounds.Budget = 0 },
		func(x *plan.Task) { x.Bounds.N = 3 },
		func(x *plan.Task) { x.Bounds.N = 5 },
	} {
		y := copied(x)
		wrong(&y)
		told(t, y, nil, 0, api.ErrArg)
	}
}
