package cache_test

import (
	"testing"

	"hourglass/api"
	"hourglass/cache"
	"hourglass/code"
)

// P6.1, P6.4: what is kept, and what is counted.

func TestOneKeyAgainAndAgain(t *testing.T) {
	for _, room := range []int{1, 2, 64} {
		p := paired(t, 6, room)
		for range 200 {
			p.turn(3, 5, 0, 2)
		}
		if s := p.Stat(); s != (cache.Stat{Kept: 1, Hits: 199, Misses: 1}) {
			t.Error(room, s)
		}
	}
}

// Keys are told apart by k, by each index, by their order, and by the noughts that end them; not by what stands behind.
func TestKeysThatAreUnlike(t *testing.T) {
	p := paired(t, 255, 64)
	unlike := [][]int{{0}, {1}, {5}, {254}, {0, 1}, {1, 0}, {5, 0}, {0, 5}, {5, 1}, {5, 0, 1}, {5, 1, 0}, {0, 1, 2}, {2, 1, 0}, {1, 2, 0}, {0, 254}, {254, 0}, {3, 4, 5, 6}, {6, 5, 4, 3}}
	for i, indexes := range unlike {
		p.turn(len(indexes), indexes...)
		if s := p.Stat(); s != (cache.Stat{Kept: i + 1, Misses: i + 1}) {
			t.Error(indexes, s)
		}
	}
	for _, indexes := range unlike {
		p.turn(len(indexes), append(indexes, 77, 99)...)
		p.decode(len(indexes), bare(2, append(indexes, 33)...)...)
	}
	if s := p.Stat(); s != (cache.Stat{Kept: len(unlike), Hits: 2 * len(unlike), Misses: len(unlike)}) {
		t.Error(s)
	}
	all := order(255, 7)
	for k := 1; k <= 40; k++ { // one list of indexes, another k: another key
		p.turn(k, all...)
	}
}

// As many as there is room for are kept, and of one more the first one goes.
func TestAsManyAsThereIsRoomFor(t *testing.T) {
	for _, room := range []int{1, 2, 3, 63, 64} {
		p := paired(t, 100, room)
		for i := range room {
			p.turn(1, i)
		}
		if s := p.Stat(); s != (cache.Stat{Kept: room, Misses: room}) {
			t.Error(room, s)
		}
		for i := range room {
			p.turn(1, i)
		}
		if s := p.Stat(); s != (cache.Stat{Kept: room, Hits: room, Misses: room}) {
			t.Error(room, s)
		}
		p.turn(1, room)
		if s := p.Stat(); s != (cache.Stat{Kept: room, Hits: room, Misses: room + 1, Dropped: 1}) {
			t.Error(room, s)
		}
		for i := range room + 1 {
			if p.Has(1, i) != (i > 0) {
				t.Error(room, i)
			}
		}
		p.turn(1, 0) // it went: a miss again, and the next one goes
		if p.Has(1, 1) {
			t.Error(room, "the next one")
		}
	}
}

// What was used again just ahead of that does not go; the next one does.
func TestUsedAgainAheadOfADrop(t *testing.T) {
	for _, room := range []int{2, 3, 10, 64} {
		for place := range room {
			uses := []func(p *pair){
				func(p *pair) { p.turn(1, place) },
				func(p *pair) { p.turn(1, place, 99, 98) },
				func(p *pair) { p.decode(1, code.Held{Index: place, Bytes: []byte{3}}) },
			}
			for i, use := range uses {
				if room == 64 && place%21 > 0 {
					continue
				}
				p := paired(t, 100, room)
				for each := range room {
					p.turn(1, each)
				}
				use(p)
				p.turn(1, room)
				gone := 0
				if place == 0 {
					gone = 1
				}
				for each := range room + 1 {
					if p.Has(1, each) != (each != gone) {
						t.Error(room, place, i, each)
					}
				}
			}
		}
	}
}

// Has, Stat, and asks that are wrong use nothing: the first one goes all the same.
func TestWhatUsesNothing(t *testing.T) {
	for i, look := range []func(c *cache.Cache){
		func(c *cache.Cache) { c.Has(1, 0) },
		func(c *cache.Cache) { c.Has(1, 0, 1, 2) },
		func(c *cache.Cache) { c.Stat() },
		func(c *cache.Cache) { c.Turn(1, 0, 0) },
		func(c *cache.Cache) { c.Turn(1, 0, 9) },
		func(c *cache.Cache) { c.Turn(2, 0) },
		func(c *cache.Cache) { c.Turn(0, 0) },
		func(c *cache.Cache) { c.Turn(10, 0) },
		func(c *cache.Cache) { c.Decode(1, bare(1, 0, 0)...) },
		func(c *cache.Cache) { c.Decode(1, bare(1, 0, -1)...) },
		func(c *cache.Cache) {
			c.Decode(1, code.Held{Index: 0, Bytes: []byte{1}}, code.Held{Index: 1, Bytes: []byte{1, 2}})
		},
	} {
		c := made(t, 9, 3)
		for each := range 3 {
			c.Turn(1, each)
		}
		before := c.Stat()
		for range 5 {
			look(c)
		}
		if s := c.Stat(); s != before {
			t.Error(i, s, before)
		}
		c.Turn(1, 3)
		if c.Has(1, 0) || !c.Has(1, 1) || !c.Has(1, 2) || !c.Has(1, 3) {
			t.Error(i, "was used")
		}
	}
}

// Scripts of asks, by a rule, of right ones and wrong ones, of a few keys and of many.
func TestScripts(t *testing.T) {
	for seed, x := range []struct{ n, room, lists, steps int }{
		{1, 1, 1, 40}, {2, 1, 3, 200}, {3, 2, 4, 300}, {4, 2, 6, 400}, {5, 3, 5, 400}, {6, 5, 6, 500}, {8, 7, 12, 500}, {9, 63, 60, 500}, {10, 64, 70, 600}, {30, 20, 12, 300}, {254, 4, 3, 40}, {255, 3, 2, 40},
	} {
		by, p := ruled(seed), paired(t, x.n, x.room)
		lists := make([][]int, x.lists)
		for i := range lists {
			lists[i] = by.order(x.n)
		}
		for range x.steps {
			step(by, p, lists[by.below(len(lists))])
		}
		s := p.Stat()
		if s.Misses != s.Kept+s.Dropped || s.Kept > x.room || s.Kept < min(x.room, 1) {
			t.Error(x, s)
		}
	}
}

// step asks for a part of a list of indexes, now and then with a fault.
func step(by *rule, p *pair, list []int) {
	n := p.model.n
	k := 1 + by.below(min(n, 3))
	indexes := append([]int(nil), list[:k+by.below(n-k+1)]...)
	switch by.below(12) {
	case 0:
		k = by.below(n+3) - 1
	case 1:
		indexes = append(indexes, indexes[by.below(len(indexes))])
	case 2:
		indexes[by.below(len(indexes))] = by.below(3*n) - n
	case 3:
		indexes = indexes[:by.below(len(indexes)+1)]
	}
	if by.below(2) == 0 {
		p.turn(k, indexes...)
		return
	}
	held, wide := bare(0, indexes...), by.below(4)
	for i := range held {
		held[i].Bytes = by.row(wide)
	}
	if len(held) > 1 && by.below(12) == 0 {
		held[by.below(len(held))].Bytes = by.row(wide + 1)
	}
	p.decode(k, held...)
}

// Caches know nothing of one another, and one script is answered alike each time (R4).
func TestCachesAreUnlike(t *testing.T) {
	for seed := range 20 {
		a, b, other := paired(t, 8, 5), paired(t, 8, 5), paired(t, 7, 2)
		first, second, third := ruled(seed), ruled(seed), ruled(seed+1)
		lists := [][]int{order(7, seed), order(7, seed+1), order(7, seed+2)}
		for i := range 120 {
			step(first, a, append([]int{7}, lists[i%3]...))
			step(third, other, lists[i%2])
			step(second, b, append([]int{7}, lists[i%3]...))
			if a.Stat() != b.Stat() {
				t.Fatal(seed, i, a.Stat(), b.Stat())
			}
		}
	}
}

// A copy by value is the same cache: what one of them is asked for the other one keeps and counts.
func TestCopyOfACache(t *testing.T) {
	p := paired(t, 6, 2)
	twin := *p.Cache
	for seed := range 30 {
		p.turn(2, order(6, seed%4)...)
		k, indexes := 1+seed%3, order(6, seed%5)
		p.model.ask(k, indexes)
		if _, e := twin.Turn(k, indexes...); e != api.OK || twin.Stat() != p.Stat() {
			t.Error(seed, e)
		}
		p.check("copy", k, indexes)
	}
}
