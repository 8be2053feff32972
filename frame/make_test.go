package frame_test

import (
	"math"
	"slices"
	"testing"

	"hourglass/api"
	"hourglass/frame"
	"hourglass/plan"
	"hourglass/size"
)

// P16.2

// layered are layers of such lengths and worths, by turns.
func layered(numbers ...int) []api.Layer {
	var out []api.Layer
	for i := 0; i < len(numbers); i += 2 {
		out = append(out, api.Layer{Bytes: some(numbers[i], i+1), Worth: numbers[i+1]})
	}
	return out
}

// inside are layers' bytes.
func inside(layers []api.Layer) [][]byte {
	var out [][]byte
	for _, layer := range layers {
		out = append(out, layer.Bytes)
	}
	return out
}

// fall are n + 1 weights, each one so much less than the one ahead, from a first one on, but none below 0.
func fall(n, first, step int) []int {
	w := make([]int, max(0, n+1))
	for place := range w {
		w[place] = max(0, first-place*step)
	}
	return w
}

// rightMake says whether what Make is asked is right, word by word.
func rightMake(s frame.Start, b size.Bounds, weights []int, layers []api.Layer) bool {
	is := 0 <= s.Stream && s.Stream <= 65535 && 1 <= s.Frame && s.Frame <= 2147483647 && 0 <= s.Deadline && s.Deadline <= 2147483647
	is = is && 1 <= b.N && b.N <= 255 && 64 <= b.MTU && b.MTU <= 1500 && 1 <= b.Budget && b.Budget <= 524288
	is = is && 1 <= len(layers) && len(layers) <= 8 && len(weights) == b.N+1
	for _, layer := range layers {
		is = is && len(layer.Bytes) <= 65535 && 0 <= layer.Worth && layer.Worth <= 1048576
	}
	for place, weight := range weights {
		is = is && 0 <= weight && weight <= 65536 && (place == 0 || weight <= weights[place-1])
	}
	return is
}

// fits says whether a table has room.
func fits(b size.Bounds, table []api.Row) bool {
	each := 18 + 3*len(table) + long(table)
	return each <= b.MTU && each*b.N <= b.Budget
}

// best are the thresholds that fit, of the greatest score, of these the least ones: all are tried, the least ones first.
func best(b size.Bounds, weights []int, layers []api.Layer) []int {
	var out []int
	most := -1
	var try func(ks []int, least, score int)
	try = func(ks []int, least, score int) {
		if place := len(ks); place < len(layers) {
			for k := least; k <= b.N; k++ {
				try(append(ks, k), k, score+layers[place].Worth*weights[k])
			}
		} else if score > most && fits(b, tabled(inside(layers), ks)) {
			most, out = score, slices.Clone(ks)
		}
	}
	try(nil, 1, 0)
	return out
}

// makes asks what Make tells, where all thresholds may be tried.
func makes(t *testing.T, s frame.Start, b size.Bounds, weights []int, layers ...api.Layer) api.Errno {
	t.Helper()
	var ks []int
	want := api.ErrArg
	if rightMake(s, b, weights, layers) {
		if ks, want = best(b, weights, layers), api.OK; ks == nil {
			want = api.ErrInfeasible
		}
	}
	told(t, s, b, weights, layers, ks, want)
	return want
}

// told asks whether Make tells the datagrams by thresholds, or an error.
func told(t *testing.T, s frame.Start, b size.Bounds, weights []int, layers []api.Layer, ks []int, want api.Errno) {
	t.Helper()
	table, l, e := frame.Make(s, b, weights, layers...)
	if e != want {
		t.Errorf("Make(%v, %v, %d weights, %d layers): %v, %d, not %d", s, b, len(weights), len(layers), table, e, want)
		return
	}
	if want != api.OK {
		if table != nil || l != nil {
			t.Errorf("Make(%v, %v, %d weights, %d layers): %d, and %v, %d datagrams", s, b, len(weights), len(layers), e, table, len(l))
		}
		return
	}
	if !slices.Equal(table, tabled(inside(layers), ks)) || !same(l, of(s, b.N, inside(layers), ks)) {
		t.Errorf("Make(%v, %v, %d weights, %d layers): %v, %d datagrams, not by %v", s, b, len(weights), len(layers), table, len(l), ks)
	}
}

// answers asks what Make tells, and whether it is such an error.
func answers(t *testing.T, want api.Errno, s frame.Start, b size.Bounds, weights []int, layers []api.Layer, what ...any) {
	t.Helper()
	if e := makes(t, s, b, weights, layers...); e != want {
		t.Error(append(what, "the test's own frame is wrong", e, want)...)
	}
}

func TestMakeOfSmallFrames(t *testing.T) {
	tally := map[api.Errno]int{}
	for n := 1; n <= 5; n++ {
		for _, weights := range [][]int{fall(n, 65536, 0), fall(n, 65536, 1), fall(n, 65536, 16000), fall(n, 9, 4), fall(n, 0, 0)} {
			for _, layers := range [][]api.Layer{
				layered(0, 0), layered(46, 1), layered(200, 1048576), layered(40, 1, 60, 1), layered(20, 5, 20, 1), layered(20, 1, 20, 5),
				layered(0, 3, 99, 2), layered(99, 3, 0, 2), layered(5, 1, 20, 1), layered(20, 2, 30, 2, 40, 2), layered(1, 9, 60, 0, 70, 4), layered(30, 0, 30, 0, 30, 1, 30, 7),
			} {
				for _, b := range []size.Bounds{{N: n, MTU: 64, Budget: 50 * n}, {N: n, MTU: 90, Budget: 1 << 19}, {N: n, MTU: 1500, Budget: 60 * n}, {N: n, MTU: 1500, Budget: 1 << 19}} {
					tally[makes(t, start, b, weights, layers...)]++
				}
			}
		}
	}
	if tally[api.OK] < 200 || tally[api.ErrInfeasible] < 200 || tally[api.ErrArg] > 0 {
		t.Error("the test's own frames are too much alike", tally)
	}
}

// From too little for any thresholds, over just enough, to enough for the least ones.
func TestMakeOfRoom(t *testing.T) {
	layers, weights := layered(150, 3, 0, 1, 200, 2), []int{60, 50, 40, 20, 5}
	seen := map[int]int{} // by how much room there is: how long a datagram is
	for most := 64; most <= 420; most++ {
		want := api.OK
		if most < 18+9+38+50 {
			want = api.ErrInfeasible
		}
		answers(t, want, start, size.Bounds{N: 4, MTU: most, Budget: 1 << 19}, weights, layers, "MTU", most)
		for _, less := range []int{0, 1, 3} {
			want := want
			if most == 18+9+38+50 && less > 0 {
				want = api.ErrInfeasible
			}
			answers(t, want, start, size.Bounds{N: 4, MTU: 1500, Budget: 4*most - less}, weights, layers, "Budget", most, less)
		}
		if _, l, e := frame.Make(start, size.Bounds{N: 4, MTU: most, Budget: 4 * most}, weights, layers...); e == api.OK {
			seen[len(l[0])]++
		}
	}
	if len(seen) < 4 || seen[115] == 0 || seen[377] == 0 {
		t.Error("the test's own frames are too much alike", seen)
	}
}

// Just as much as the least MTU and the least Budget, and just one byte more.
func TestMakeOfTheLeastRoom(t *testing.T) {
	for n := 1; n <= 4; n++ {
		w := fall(n, 9, 2)
		answers(t, api.OK, start, size.Bounds{N: n, MTU: 64, Budget: 21 * n}, w, layered(0, 1))
		answers(t, api.ErrInfeasible, start, size.Bounds{N: n, MTU: 64, Budget: 21*n - 1}, w, layered(0, 1))
		answers(t, api.ErrInfeasible, start, size.Bounds{N: n, MTU: 64, Budget: 1}, w, layered(0, 1))
		answers(t, api.OK, start, size.Bounds{N: n, MTU: 64, Budget: 64 * n}, w, layered(43*n, 1))
		answers(t, api.ErrInfeasible, start, size.Bounds{N: n, MTU: 64, Budget: 64*n - 1}, w, layered(43*n, 1))
		answers(t, api.ErrInfeasible, start, size.Bounds{N: n, MTU: 64, Budget: 1 << 19}, w, layered(43*n+1, 1))
		answers(t, api.OK, start, size.Bounds{N: n, MTU: 65, Budget: 1 << 19}, w, layered(43*n+1, 1))
		answers(t, api.OK, start, size.Bounds{N: n, MTU: 1500, Budget: 1 << 19}, w, layered(1479*n, 1))
		answers(t, api.ErrInfeasible, start, size.Bounds{N: n, MTU: 1500, Budget: 1 << 19}, w, layered(1479*n+1, 1))
	}
}

func TestMakeOfEachNumberOfAStart(t *testing.T) {
	w := fall(4, 9, 1)
	for _, p := range parts() {
		for _, n := range p.may {
			s := start
			*p.of(&s) = n
			answers(t, api.OK, s, bounds, w, layered(5, 1, 20, 2), p.name, n)
			answers(t, api.ErrInfeasible, s, bounds, w, layered(45, 1, 60, 2), p.name, n)
		}
		for _, n := range p.none {
			s := start
			*p.of(&s) = n
			answers(t, api.ErrArg, s, bounds, w, layered(5, 1, 20, 2), p.name, n)
			answers(t, api.ErrArg, s, bounds, w, layered(45, 1, 60, 2), p.name, n, "and nothing fits")
		}
	}
	answers(t, api.ErrArg, frame.Start{}, bounds, w, layered(5, 1))
	answers(t, api.OK, frame.Start{Frame: 1}, bounds, w, layered(5, 1))
	answers(t, api.OK, frame.Start{Stream: 65535, Frame: 1<<31 - 1, Deadline: 1<<31 - 1}, bounds, w, layered(5, 1))
}

func TestMakeOfEachNumberOfBounds(t *testing.T) {
	layers, w := layered(5, 1, 20, 2), fall(4, 9, 1)
	for _, x := range []struct {
		of        func(b *size.Bounds) *int
		may, none []int
	}{
		{func(b *size.Bounds) *int { return &b.MTU }, []int{64, 65, 1499, 1500}, []int{0, 1, 62, 63, 1501, 1502, 65536, 65600}},
		{func(b *size.Bounds) *int { return &b.Budget }, []int{1, 2, 123, 124, 125, 1<<19 - 1, 1 << 19}, []int{0, 1<<19 + 1, 1<<19 + 2, 1 << 20, 1<<31 - 1}},
		{func(b *size.Bounds) *int { return &b.N }, []int{4}, []int{0, 1, 3, 5, 254, 255, 256, 257, 260, 65540}},
	} {
		for _, n := range x.may {
			b := bounds
			*x.of(&b) = n
			if e := makes(t, start, b, w, layers...); e == api.ErrArg {
				t.Error("the test's own frame is wrong", b)
			}
		}
		for _, n := range slices.Concat(far, x.none) {
			b := bounds
			*x.of(&b) = n
			answers(t, api.ErrArg, start, b, w, layers, b)
			answers(t, api.ErrArg, start, b, w, layered(45, 1, 60, 2), b, "and nothing fits")
		}
	}
	answers(t, api.ErrArg, start, size.Bounds{}, w, layers)
	answers(t, api.ErrArg, start, size.Bounds{MTU: 64, Budget: 200}, []int{7}, layers)
	answers(t, api.ErrArg, start, size.Bounds{N: -1, MTU: 64, Budget: 200}, nil, layers)
	answers(t, api.ErrArg, start, size.Bounds{N: 256, MTU: 64, Budget: 1 << 19}, fall(256, 9, 0), layers)
}

func TestMakeOfEachN(t *testing.T) {
	for n := 1; n <= 258; n++ {
		want := api.OK
		if n > 255 {
			want = api.ErrArg
		}
		answers(t, want, start, size.Bounds{N: n, MTU: 64, Budget: 64 * n}, fall(n, 60000, n), layered(43, 1), n)
		answers(t, api.ErrArg, start, size.Bounds{N: n, MTU: 64, Budget: 64 * n}, fall(n-1, 60000, n), layered(43, 1), n)
		answers(t, api.ErrArg, start, size.Bounds{N: n, MTU: 64, Budget: 64 * n}, fall(n+1, 60000, n), layered(43, 1), n)
	}
}

func TestMakeOfWeights(t *testing.T) {
	layers := layered(5, 1, 20, 2)
	for many := range 12 {
		want := api.ErrArg
		if many == 5 {
			want = api.OK
		}
		answers(t, want, start, bounds, slices.Repeat([]int{7}, many), layers, many)
		answers(t, want, start, bounds, make([]int, many), layers, many)
	}
	for _, many := range []int{256, 257, 261, 65541} {
		answers(t, api.ErrArg, start, bounds, make([]int, many), layers, many)
	}
	for place := range 5 {
		for _, weight := range slices.Concat(far, []int{0, 1, 6, 7, 8, 65535, 65536, 65537, 1 << 20}) {
			w := []int{9, 8, 7, 6, 5}
			w[place] = weight
			makes(t, start, bounds, w, layers...)
			makes(t, start, bounds, w, layered(45, 1, 60, 2)...)
			w = slices.Repeat([]int{weight}, 5)
			makes(t, start, bounds, w, layers...)
		}
	}
	answers(t, api.OK, start, bounds, []int{65536, 65536, 65536, 0, 0}, layers)
	answers(t, api.ErrArg, start, bounds, []int{65537, 65536, 65536, 0, 0}, layers)
	answers(t, api.ErrArg, start, bounds, []int{65536, 65536, 65536, 0, -1}, layers)
	answers(t, api.ErrArg, start, bounds, []int{5, 4, 3, 2, 3}, layers)
	answers(t, api.ErrArg, start, bounds, []int{5, 6, 3, 2, 1}, layers)
	answers(t, api.ErrArg, start, bounds, nil, layers)
}

func TestMakeOfWorths(t *testing.T) {
	w := fall(4, 9, 2)
	for place := range 3 {
		for _, worth := range []int{0, 1, 2, 1<<20 - 1, 1 << 20} {
			layers := layered(5, 1, 9, 2, 20, 3)
			layers[place].Worth = worth
			answers(t, api.OK, start, bounds, w, layers, place, worth)
		}
		for _, worth := range slices.Concat(far, []int{1<<20 + 1, 1<<20 + 2, 1 << 21}) {
			layers := layered(5, 1, 9, 2, 20, 3)
			layers[place].Worth = worth
			answers(t, api.ErrArg, start, bounds, w, layers, place, worth)
			layers[place].Bytes = some(3000, 1)
			answers(t, api.ErrArg, start, bounds, w, layers, place, worth, "and nothing fits")
		}
	}
}

func TestMakeOfSoManyLayers(t *testing.T) {
	for many := range 13 {
		want := api.ErrArg
		if many >= 1 && many <= 8 {
			want = api.OK
		}
		layers := slices.Repeat(layered(2, 1), many)
		answers(t, want, start, size.Bounds{N: 2, MTU: 64, Budget: 128}, []int{5, 4, 3}, layers, many)
		answers(t, want, start, size.Bounds{N: 2, MTU: 64, Budget: 128}, []int{5, 4, 3}, make([]api.Layer, many), many, "without bytes")
		answers(t, api.ErrArg, frame.Start{}, size.Bounds{N: 2, MTU: 64, Budget: 128}, []int{5, 4, 3}, layers, many)
	}
	for _, many := range []int{16, 255, 256, 257, 264, 1000} {
		answers(t, api.ErrArg, start, bounds, fall(4, 9, 1), make([]api.Layer, many), many)
	}
}

func TestMakeOfGreatLayers(t *testing.T) {
	great := size.Bounds{N: 255, MTU: 1500, Budget: 1 << 19}
	w := fall(255, 65536, 200)
	layers := layered(65535, 1)
	told(t, start, great, w, layers, []int{45}, api.OK)
	for _, long := range []int{65536, 65537, 131072} {
		told(t, start, great, w, layered(long, 1), nil, api.ErrArg)
		told(t, start, great, w, layered(1, 1, long, 1), nil, api.ErrArg)
		told(t, start, great, w, layered(65535, 1, 65535, 1, 65535, 1, 65535, 1, 65535, 1, long, 1), nil, api.ErrArg)
		answers(t, api.ErrArg, start, bounds, fall(4, 9, 1), layered(long, 1), long)
	}
	told(t, start, great, w, layered(65535, 1, 65535, 1, 65535, 1, 65535, 1, 65535, 1, 65535, 1), nil, api.ErrInfeasible)
	answers(t, api.ErrInfeasible, start, bounds, fall(4, 9, 1), layered(65535, 1))
}

// The errors come in the chapter's order: whatever is wrong counts ahead of thresholds that do not fit.
func TestMakeInOrder(t *testing.T) {
	wrongs := map[string]func(s *frame.Start, b *size.Bounds, w *[]int, layers *[]api.Layer){
		"Stream":     func(s *frame.Start, b *size.Bounds, w *[]int, layers *[]api.Layer) { s.Stream = 65536 },
		"Frame":      func(s *frame.Start, b *size.Bounds, w *[]int, layers *[]api.Layer) { s.Frame = 0 },
		"Deadline":   func(s *frame.Start, b *size.Bounds, w *[]int, layers *[]api.Layer) { s.Deadline = 1 << 31 },
		"N":          func(s *frame.Start, b *size.Bounds, w *[]int, layers *[]api.Layer) { b.N = 0 },
		"MTU":        func(s *frame.Start, b *size.Bounds, w *[]int, layers *[]api.Layer) { b.MTU = 63 },
		"Budget":     func(s *frame.Start, b *size.Bounds, w *[]int, layers *[]api.Layer) { b.Budget = 0 },
		"weights":    func(s *frame.Start, b *size.Bounds, w *[]int, layers *[]api.Layer) { (*w)[0] = -1 },
		"no weights": func(s *frame.Start, b *size.Bounds, w *[]int, layers *[]api.Layer) { *w = nil },
		"a worth":    func(s *frame.Start, b *size.Bounds, w *[]int, layers *[]api.Layer) { (*layers)[1].Worth = math.MinInt },
		"layers":     func(s *frame.Start, b *size.Bounds, w *[]int, layers *[]api.Layer) { *layers = nil },
		"too long": func(s *frame.Start, b *size.Bounds, w *[]int, layers *[]api.Layer) {
			(*layers)[1].Bytes = some(65536, 1)
		},
	}
	for name, wrong := range wrongs {
		for other, again := range wrongs {
			for _, long := range []int{60, 61} { // those fit, these do not
				s, b, w, layers := start, bounds, fall(4, 9, 1), layered(44, 1, long, 1)
				want := api.OK
				if long == 61 {
					want = api.ErrInfeasible
				}
				answers(t, want, s, b, w, layers)
				wrong(&s, &b, &w, &layers)
				answers(t, api.ErrArg, s, b, w, layers, name, long)
				if len(w) > 0 && len(layers) > 0 {
					again(&s, &b, &w, &layers)
					answers(t, api.ErrArg, s, b, w, layers, name, other, long)
				}
			}
		}
	}
}

// anyTask is of numbers by a rule, some of them such that nothing fits, some not right.
func anyTask(seed int) (size.Bounds, []int, []api.Layer) {
	dice := some(40, seed)
	number := func(at, most int) int { return (int(dice[at])*256 + int(dice[at+1])) % most }
	n := number(0, []int{4, 30, 255}[seed%3]) + 1
	b := size.Bounds{N: n, MTU: 64 + number(2, []int{50, 1437}[seed%2]), Budget: n * (40 + number(4, 1500))}
	weights := fall(n, 65536, number(6, 65536/n))
	var layers []api.Layer
	for place := range number(8, 8) + 1 {
		layers = append(layers, api.Layer{Bytes: some(number(10+2*place, []int{30, 400, 4000}[seed/2%3]*n/2+1), seed+place), Worth: number(26+place, 70000)})
	}
	switch seed % 17 {
	case 5:
		layers[len(layers)-1].Worth = -1
	case 11:
		weights = weights[1:]
	}
	b.Budget = min(b.Budget, 1<<19)
	return b, weights, layers
}

// What Make tells is what With tells by the table that plan.Best tells, and its errors are plan.Best's.
func TestMakeAsPlanAndWith(t *testing.T) {
	tally := map[api.Errno]int{}
	for seed := range 600 {
		b, weights, layers := anyTask(seed)
		task := plan.Task{Bounds: b, Weights: weights}
		for _, layer := range layers {
			task.Lens, task.Worths = append(task.Lens, len(layer.Bytes)), append(task.Worths, layer.Worth)
		}
		ks, want := plan.Best(task)
		tally[want]++
		table, l, e := frame.Make(start, b, weights, layers...)
		if e != want || (e == api.ErrArg) == plan.Right(task) {
			t.Error(seed, b, e, want)
		}
		if e != api.OK {
			if table != nil || l != nil {
				t.Error(seed, table, len(l), e)
			}
			continue
		}
		by, f := frame.With(start, b.N, inside(layers), ks)
		if f != api.OK || !same(l, by) || !slices.Equal(table, tabled(inside(layers), ks)) {
			t.Error(seed, b, table, ks, len(l), len(by), f)
		}
		if _, _, e := frame.Make(frame.Start{}, b, weights, layers...); e != api.ErrArg {
			t.Error(seed, e)
		}
	}
	if tally[api.OK] < 100 || tally[api.ErrInfeasible] < 100 || tally[api.ErrArg] < 40 {
		t.Error("the test's own frames are too much alike", tally)
	}
}
