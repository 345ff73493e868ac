package diff_test

import (
	"math"
	"testing"

	"caulk/api"
	"caulk/diff"
)

func TestShared(t *testing.T) { // 30.2
	a := build(3, disk(1, 0), disk(1, 1), hole, hole, disk(1, 0), fresh(1), fresh(1), disk(2, 0), disk(1, 0))
	b := build(3, hole, disk(1, 1), disk(7, 7), fresh(1))
	c := build(3, disk(7, 6), disk(6, 7))
	shares(t, 3, 0)
	shares(t, 3, 0, api.Chart{})
	shares(t, 3, 0, api.Chart{Blocks: api.MaxBlocks}, api.Chart{Blocks: api.MaxBlocks}) // holes
	shares(t, 3, 3, a)                                                                  // the same map's
	shares(t, 3, 0, b)
	shares(t, 3, 0, c)
	shares(t, 3, 5, a, b)
	shares(t, 3, 5, b, a)
	shares(t, 3, 0, b, c)
	shares(t, 3, 5, a, b, c)
	shares(t, 3, 10, a, a) // a map that comes twice
	shares(t, 3, 4, b, b)
	shares(t, 3, 6+4+4, c, b, c, b, a, c, api.Chart{Blocks: 5}, build(3, fresh(9), fresh(9))) // of c six, of b four, of a four
}

func TestSharedGreat(t *testing.T) { // 30.2: full maps, at the edges of e
	l := make([]api.Entry, api.MaxBlocks)
	for i := range l {
		l[i] = disk(i/7, i%7)
	}
	l[5], l[60000] = l[api.MaxBlocks-1], hole
	for _, e := range []int{1, 64, 100, api.MaxEntries} {
		c := build(e, l...)
		shares(t, e, 2, c)
		shares(t, e, 2*(api.MaxBlocks-1), c, c)
		shares(t, e, 2+2, c, build(e, disk(0, 0), disk(0, 5))) // one of each of both maps, and two of the first one alone
	}
}

func TestSharedWrong(t *testing.T) { // 30.2: ErrForm, wherever the map stands that is not right
	no := func(e int, l ...api.Chart) {
		t.Helper()
		if got, err := diff.Shared(e, l...); got != 0 || err != api.ErrForm {
			t.Errorf("Shared(%d, %s) = %d, %d", e, brief(l), got, err)
		}
	}
	good := mix()[6]
	for _, c := range wrong() {
		no(3, c)
		no(3, c, good, good)
		no(3, good, c, good)
		no(3, good, good, c)
	}
	for _, e := range []int{-1, 0, 2, 4, math.MinInt, api.MaxEntries + 1, math.MaxInt} {
		no(e, good)
		no(e, good, api.Chart{})
	}
	for _, e := range []int{-1, 0, api.MaxEntries + 1, math.MinInt, math.MaxInt} {
		no(e, api.Chart{})
		if got, err := diff.Shared(e); got != 0 || err != api.OK { // of no maps none is wrong
			t.Errorf("Shared(%d) = %d, %d", e, got, err)
		}
	}
}

func TestSharedBlockByBlock(t *testing.T) { // 30.2: against all pairs of blocks
	for seed := range 400 {
		next := draw(uint64(seed))
		e := []int{1, 2, 3, 7, 64}[next(5)]
		var l, was []api.Chart
		var all []api.Entry
		for range next(5) {
			c := drawn(next, e, 40)
			l, was = append(l, c), append(was, copied(c))
			for at := range c.Blocks {
				x, _ := get(t, e, c, at)
				all = append(all, x)
			}
		}
		want := 0
		for i, x := range all {
			for j, y := range all {
				if x.Kind == api.EntryDisk && i != j && x == y {
					want++
					break
				}
			}
		}
		shares(t, e, want, l...)
		for i := range l {
			if !same(l[i], was[i]) {
				t.Fatal("what was handed in is changed")
			}
		}
	}
}
