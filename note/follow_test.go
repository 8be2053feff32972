package note_test

import (
	"bytes"
	"testing"

	"hourglass/api"
	"hourglass/note"
)

// P15.4: what follows.

// anyNote is a right report, by a rule.
func anyNote(seed int) api.Note {
	dice := some(600, seed)
	number := func(at int) int {
		return int(dice[at])<<24 | int(dice[at+1])<<16 | int(dice[at+2])<<8 | int(dice[at+3])
	}
	n := api.Note{Stream: number(1) % 65536, Seq: number(5)%(1<<31-1) + 1, N: int(dice[0])%255 + 1}
	often := int(dice[9])%5 + 1
	for came := 1; came <= n.N; came++ {
		if int(dice[10+came])%often == 0 {
			n.Counts = append(n.Counts, api.Count{Came: came, Times: number(300+came)%[]int{1, 2, 256, 65535}[int(dice[10])%4] + 1})
		}
	}
	return n
}

// What is put is parsed; and of another report other bytes are put.
func TestWhatIsPutIsParsed(t *testing.T) {
	seen := map[string]int{}
	for seed := range 1500 {
		n := anyNote(seed)
		if !right(n) {
			t.Fatal("the test's own report is wrong", n)
		}
		b, e := note.Put(n)
		if e != api.OK {
			t.Fatal(n, e)
		}
		again, e := note.Parse(b)
		if e != api.OK || !same(again, n) || !note.Right(again) {
			t.Error(n, again, e)
		}
		if other, twice := seen[string(b)]; twice {
			t.Error(seed, other, "are put alike")
		}
		seen[string(b)] = seed
	}
}

// No other bytes are parsed to the same: of any that are parsed, just these are put.
func TestNoOtherBytesAreParsedToTheSame(t *testing.T) {
	for _, n := range notes() {
		b := plain(n)
		for at := range b {
			for turn := 1; turn < 256; turn *= 2 {
				other := bytes.Clone(b)
				other[at] ^= byte(turn)
				other = seal(other)
				again, e := note.Parse(other)
				if e != api.OK {
					continue
				}
				if same(again, n) {
					t.Error(at, turn, n)
				}
				if back, e := note.Put(again); e != api.OK || !bytes.Equal(back, other) {
					t.Error(at, turn, again, e)
				}
			}
		}
	}
}

// The sum is that of all counts, of right reports and of others.
func TestTheSumIsThatOfAllCounts(t *testing.T) {
	asked := func(n api.Note) int {
		all := 0
		for came := -5; came <= 300; came++ {
			all += note.Count(n, came)
		}
		return all
	}
	for seed := range 500 {
		n := anyNote(seed)
		if is := note.Sum(n); is != asked(n) || is != total(n) || is < len(n.Counts) {
			t.Error(n, is, asked(n), total(n))
		}
		if len(n.Counts) > 0 {
			n.Counts[len(n.Counts)-1].Times = 0
			if note.Sum(n) != 0 || asked(n) != 0 {
				t.Error(n, note.Sum(n), asked(n))
			}
		}
	}
	for _, n := range notes() {
		if is := note.Sum(n); is != asked(n) || is != total(n) {
			t.Error(n, is, asked(n), total(n))
		}
		n.Seq = 0
		if note.Sum(n) != 0 || asked(n) != 0 {
			t.Error(n, note.Sum(n), asked(n))
		}
	}
}

// A datagram has 9 bytes, 3 for each count, and 4 of its sum.
func TestHowLongADatagramIs(t *testing.T) {
	for seed := range 300 {
		n := anyNote(seed)
		if b, e := note.Put(n); e != api.OK || len(b) != 13+3*len(n.Counts) {
			t.Error(n, len(b), e)
		}
	}
}
