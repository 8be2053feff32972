package note_test

import (
	"bytes"
	"math"
	"slices"
	"testing"

	"hourglass/api"
	"hourglass/note"
)

// The calls, as the chapter has them.
var (
	_ func(n api.Note) bool                = note.Right
	_ func(n api.Note) ([]byte, api.Errno) = note.Put
	_ func(b []byte) (api.Note, api.Errno) = note.Parse
	_ func(n api.Note) int                 = note.Sum
	_ func(n api.Note, came int) int       = note.Count
)

func TestLimitsAndErrorsByTheirNumbers(t *testing.T) {
	if api.MaxStream != 65535 || api.MaxFrame != 2147483647 || api.MaxN != 255 {
		t.Error(api.MaxStream, api.MaxFrame, api.MaxN)
	}
	if api.OK != 0 || api.ErrArg != 2 || api.ErrShape != 4 || api.ErrSum != 10 || api.ErrVersion != 11 {
		t.Error(api.OK, api.ErrArg, api.ErrShape, api.ErrSum, api.ErrVersion)
	}
}

func TestExample(t *testing.T) {
	n := api.Note{Stream: 1, Seq: 2, N: 3, Counts: []api.Count{{Came: 2, Times: 1}, {Came: 3, Times: 5}}}
	inner := []byte{2, 0, 1, 0, 0, 0, 2, 3, 2, 2, 0, 1, 3, 0, 5}
	b, e := note.Put(n)
	if e != api.OK || len(b) != 19 || !bytes.Equal(b[:15], inner) || !bytes.Equal(b, seal(inner)) {
		t.Fatal(b, e)
	}
	again, e := note.Parse(b)
	if e != api.OK || !same(again, n) || note.Sum(again) != 6 || note.Count(again, 1) != 0 || note.Count(again, 2) != 1 || note.Count(again, 3) != 5 {
		t.Error(again, e)
	}
}

// P15.1, Right

func TestRightReports(t *testing.T) {
	for i, n := range notes() {
		if !right(n) || !note.Right(n) {
			t.Error(i, n)
		}
	}
	if note.Right(api.Note{}) || note.Right(api.Note{Counts: counts(1, 1)}) || note.Right(api.Note{Seq: 1}) || note.Right(api.Note{N: 1}) {
		t.Error("of noughts")
	}
}

func TestRightOfEachNumber(t *testing.T) {
	for _, base := range notes() {
		for _, p := range parts() {
			for _, x := range slices.Concat(far, p.none) {
				n := base
				if *p.of(&n) = x; right(n) || note.Right(n) {
					t.Error(p.name, x, n)
				}
			}
			for _, x := range p.may {
				n := base
				if *p.of(&n) = x; !right(n) || !note.Right(n) {
					t.Error(p.name, x, n)
				}
			}
		}
	}
}

func TestRightOfTheEdges(t *testing.T) {
	n := good()
	for i, x := range []struct {
		of *int
		is map[int]bool
	}{
		{&n.Stream, map[int]bool{-1: false, 0: true, 65535: true, 65536: false}},
		{&n.Seq, map[int]bool{-1: false, 0: false, 1: true, 1<<31 - 1: true, 1 << 31: false}},
		{&n.N, map[int]bool{-1: false, 0: false, 1: false, 7: false, 8: true, 9: true, 255: true, 256: false}},
		{&n.Counts[0].Came, map[int]bool{-1: false, 0: false, 1: true, 2: true, 3: false, 4: false, 255: false}},
		{&n.Counts[1].Came, map[int]bool{-1: false, 0: false, 1: false, 2: false, 3: true, 4: true, 5: false, 6: false}},
		{&n.Counts[3].Came, map[int]bool{0: false, 5: false, 6: true, 9: true, 10: false, 255: false, 256: false, 264: false}},
		{&n.Counts[0].Times, map[int]bool{-1: false, 0: false, 1: true, 65535: true, 65536: false, 65537: false}},
		{&n.Counts[2].Times, map[int]bool{-1: false, 0: false, 1: true, 65535: true, 65536: false}},
		{&n.Counts[3].Times, map[int]bool{-1: false, 0: false, 1: true, 65535: true, 65536: false, math.MaxInt: false, math.MinInt: false}},
	} {
		was := *x.of
		for number, is := range x.is {
			if *x.of = number; note.Right(n) != is || right(n) != is {
				t.Error(i, number, n, "not", is)
			}
		}
		*x.of = was
	}
	if !note.Right(n) {
		t.Error(n)
	}
}

// Of each N, a count near it; without counts, each N that may be is right.
func TestRightOfNAndCame(t *testing.T) {
	for n := -3; n <= 300; n++ {
		judged(t, api.Note{Stream: 1, Seq: 1, N: n})
		for _, came := range []int{math.MinInt, -1, 0, 1, n - 1, n, n + 1, 254, 255, 256, 257, n + 1<<32, math.MaxInt} {
			judged(t, api.Note{Stream: 1, Seq: 1, N: n, Counts: counts(came, 1)})
			judged(t, api.Note{Stream: 1, Seq: 1, N: n, Counts: counts(1, 1, came, 1)})
			judged(t, api.Note{Stream: 1, Seq: 1, N: n, Counts: counts(came, 1, n, 1)})
		}
	}
}

func TestRightOfSoManyCounts(t *testing.T) {
	for _, n := range []int{1, 2, 100, 254, 255} {
		for _, many := range []int{0, 1, 2, 99, 100, 101, 253, 254, 255, 256, 257, 511, 512, 65536, 65537} {
			report := api.Note{Stream: 1, Seq: 1, N: n, Counts: steps(1, many, func(came int) int { return came%65535 + 1 })}
			if is := note.Right(report); is != (many <= n) {
				t.Error(n, many, is)
			}
		}
	}
}

func TestRightOfCountsThatDoNotRise(t *testing.T) {
	base := api.Note{Stream: 1, Seq: 2, N: 10}
	for name, list := range map[string][]api.Count{
		"twice":                     counts(1, 1, 1, 1),
		"twice, with other times":   counts(4, 1, 4, 2),
		"twice at the end":          counts(1, 1, 2, 1, 10, 1, 10, 1),
		"twice, with one between":   counts(4, 1, 5, 1, 4, 1),
		"falling":                   counts(2, 1, 1, 1),
		"falling by much":           counts(10, 1, 1, 1),
		"falling at the end":        counts(1, 1, 3, 1, 2, 1),
		"falling, with more behind": counts(3, 1, 2, 1, 4, 1),
		"all falling":               counts(4, 1, 3, 1, 2, 1, 1, 1),
		"all the same":              slices.Repeat(counts(3, 1), 256),
		"300 the same":              slices.Repeat(counts(1, 1), 300),
		"none came":                 counts(0, 1, 1, 1),
		"none came, alone":          counts(0, 1),
		"fewer than none":           counts(-1, 1, 1, 1),
		"one above N":               counts(1, 1, 11, 1),
		"one that is cut to 5":      counts(1, 1, 261, 1),
		"far":                       counts(1, 1, math.MaxInt, 1),
		"far below":                 counts(math.MinInt, 1, 1, 1),
	} {
		n := base
		n.Counts = list
		refused(t, n)
		if right(n) {
			t.Error(name)
		}
	}
}

// Each count's numbers are asked, wherever it stands.
func TestRightOfEachCount(t *testing.T) {
	list := counts(10, 100, 20, 65535, 30, 1, 31, 2, 70, 255, 80, 256)
	for place := range list {
		for _, x := range slices.Concat(far, []int{0, 1, 9, 10, 11, 19, 20, 21, 29, 30, 31, 32, 69, 70, 71, 79, 80, 81, 255, 256, 65534, 65535, 65536, 65537, 131072}) {
			n := api.Note{Stream: 1, Seq: 2, N: 80, Counts: slices.Clone(list)}
			n.Counts[place].Came = x
			judged(t, n)
			n.Counts[place].Came, n.Counts[place].Times = list[place].Came, x
			judged(t, n)
			n.N = 79
			judged(t, n)
		}
	}
}

// P15.1, Sum and Count

func TestSumThatIsWrittenOut(t *testing.T) {
	for i, x := range []struct {
		n    api.Note
		want int
	}{
		{good(), 0xABCD + 300 + 1 + 7},
		{api.Note{Stream: 0, Seq: 1, N: 1}, 0},
		{api.Note{Stream: 0, Seq: 1, N: 1, Counts: counts(1, 1)}, 1},
		{api.Note{Stream: 0, Seq: 1, N: 2, Counts: counts(1, 65535, 2, 65535)}, 131070},
		{api.Note{Stream: 0, Seq: 1, N: 255, Counts: steps(1, 255, func(int) int { return 65535 })}, 255 * 65535},
		{api.Note{Stream: 0, Seq: 1, N: 255, Counts: steps(1, 255, func(came int) int { return came })}, 255 * 128},
		{api.Note{Stream: 0, Seq: 0, N: 2, Counts: counts(1, 5)}, 0},
		{api.Note{Stream: 0, Seq: 1, N: 2, Counts: counts(1, 5, 3, 5)}, 0},
		{api.Note{Stream: 0, Seq: 1, N: 2, Counts: counts(2, 5, 1, 5)}, 0},
		{api.Note{Stream: 0, Seq: 1, N: 2, Counts: counts(1, 5, 2, 65536)}, 0},
		{api.Note{Stream: 0, Seq: 1, N: 2, Counts: counts(1, math.MaxInt, 2, math.MaxInt)}, 0},
	} {
		if is := note.Sum(x.n); is != x.want {
			t.Error(i, is, x.want)
		}
	}
}

// Of right reports, each count: of those that they have, and of all others.
func TestCountOfEachNumber(t *testing.T) {
	for i, n := range notes() {
		have := map[int]int{}
		for _, c := range n.Counts {
			have[c.Came] = c.Times
		}
		for came := -300; came <= 600; came++ {
			if is := note.Count(n, came); is != have[came] {
				t.Error(i, came, is, have[came])
			}
		}
		for _, came := range far {
			if is := note.Count(n, came); is != 0 {
				t.Error(i, came, is)
			}
		}
	}
}

// Of reports that are not right, nothing is told, wherever the fault is.
func TestSumAndCountOfReportsThatAreNotRight(t *testing.T) {
	for _, base := range small() {
		for _, p := range parts() {
			for _, x := range slices.Concat(far, p.none) {
				n := base
				*p.of(&n) = x
				refused(t, n)
			}
		}
		for place := range base.Counts {
			for _, c := range []api.Count{{}, {Came: base.Counts[place].Came}, {Came: base.Counts[place].Came, Times: 65536}, {Came: base.N + 1, Times: 1}, {Came: 0, Times: 1}} {
				n := copied(base)
				n.Counts[place] = c
				refused(t, n)
				for came := range 300 {
					if note.Count(n, came) != 0 {
						t.Error(n, came)
					}
				}
			}
		}
	}
}
