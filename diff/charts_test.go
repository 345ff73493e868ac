package diff_test

import (
	"math"
	"testing"

	"caulk/api"
	"caulk/chart"
	"caulk/diff"
)

func TestCharts(t *testing.T) { // 30.1
	m := mix()
	differs(t, 3, m[0], m[0], nil)
	differs(t, 3, m[0], m[2], ranges(0, 4)) // of holes: the one has them, and the other one not
	differs(t, 3, m[1], m[2], ranges(1, 4))
	differs(t, 3, m[0], m[8], ranges(0, api.MaxBlocks))
	differs(t, 3, m[1], m[3], ranges(0, 1))
	differs(t, 3, m[2], m[3], ranges(0, 4))
	differs(t, 3, m[4], m[5], ranges(6, 7)) // fresh data of other numbers
	differs(t, 3, m[4], m[6], ranges(0, 1, 3, 4, 5, 10))
	differs(t, 3, m[6], m[7], ranges(0, 10))
	differs(t, 3, m[2], m[4], ranges(1, 2, 4, 7))
	differs(t, 3, m[7], m[8], ranges(0, api.MaxBlocks))
	differs(t, 3, m[4], m[8], ranges(1, 2, 6, api.MaxBlocks))
	for _, c := range m {
		differs(t, 3, c, copied(c), nil)
	}
	differs(t, 4, build(4, disk(1, 1), disk(1, 2), disk(1, 3), disk(2, 1), fresh(3)), build(4, disk(1, 1), disk(2, 1), disk(1, 3), disk(1, 2), disk(3, 3)), ranges(1, 2, 3, 5))
}

// places are blocks at the edges of tables, and of a map.
func places() []int {
	return []int{0, 1, 63, 64, 65, 8191, 8192, 8193, 40000, api.MaxBlocks - 2, api.MaxBlocks - 1}
}

func TestChartsGreat(t *testing.T) { // 30.1: full maps, at the edges of e
	l := make([]api.Entry, api.MaxBlocks)
	for i := range l {
		l[i] = disk(i/7, i%7)
	}
	for _, e := range []int{1, 64, 100, api.MaxEntries} {
		a := build(e, l...)
		differs(t, e, a, api.Chart{Blocks: api.MaxBlocks}, ranges(0, api.MaxBlocks))
		differs(t, e, a, build(e, l[:1000]...), ranges(1000, api.MaxBlocks))
		b := copied(a)
		for i, at := range places() {
			b.Tables[at/e].L[at%e] = []api.Entry{disk(9, 100), fresh(1), disk(at/7, at%7+1), disk(at/7+1, at%7)}[i%4]
		}
		differs(t, e, a, b, ranges(0, 2, 63, 66, 8191, 8194, 40000, 40001, api.MaxBlocks-2, api.MaxBlocks))
	}
}

func TestChartsWrong(t *testing.T) { // 30.1: ErrForm, whichever of both is not right
	no := func(e int, a, b api.Chart) {
		t.Helper()
		if got, err := diff.Charts(e, a, b); got != nil || err != api.ErrForm {
			t.Errorf("Charts(%d, %s, %s) = %v, %d", e, brief(a), brief(b), got, err)
		}
	}
	for _, c := range wrong() {
		for _, good := range mix() {
			no(3, c, good)
			no(3, good, c)
		}
		no(3, c, c)
	}
	good := mix()[6]
	for _, e := range []int{-1, 0, 2, 4, math.MinInt, api.MaxEntries + 1, math.MaxInt} {
		no(e, good, good)
		no(e, good, api.Chart{})
		no(e, api.Chart{}, good)
	}
	for _, e := range []int{-1, 0, api.MaxEntries + 1, math.MinInt, math.MaxInt} { // of an e that may not be no map is right
		no(e, api.Chart{}, api.Chart{})
	}
}

func TestChartsNewMemory(t *testing.T) { // 30.3
	m := mix()
	a, b := copied(m[4]), copied(m[6])
	got, _ := diff.Charts(3, a, b)
	clear(got)
	differs(t, 3, a, b, ranges(0, 1, 3, 4, 5, 10))
	if !same(a, m[4]) || !same(b, m[6]) {
		t.Error("what was handed in is changed")
	}
}

func TestDiffersBlockByBlock(t *testing.T) { // 30.1, 30.4: against blocks that are asked for one by one
	for seed := range 600 {
		next := draw(uint64(seed))
		e := []int{1, 2, 3, 7, 64, api.MaxEntries}[next(6)]
		a, b := drawn(next, e, 60), drawn(next, e, 60)
		if next(2) == 0 { // one that differs little
			b = copied(a)
			for range next(4) {
				b, _ = chart.Set(e, b, next(60), []api.Entry{hole, fresh(1), disk(0, 1)}[next(3)])
			}
		}
		got, err := diff.Charts(e, a, b)
		is(t, "Charts", err, api.OK)
		want := map[int]int{}
		for at := range max(a.Blocks, b.Blocks) {
			x, has := get(t, e, a, at)
			y, hasToo := get(t, e, b, at)
			if has != hasToo || x != y {
				want[at] = 1
			}
		}
		behind := -1 // of the range ahead
		for _, r := range got {
			if r.From <= behind || r.To <= r.From {
				t.Fatalf("Charts(%d, %s, %s) = %v: not ranges that rise, and don't touch", e, brief(a), brief(b), got)
			}
			for at := r.From; at < r.To; at++ {
				if want[at] != 1 {
					t.Fatalf("Charts(%d, %s, %s) = %v: they don't differ at %d", e, brief(a), brief(b), got, at)
				}
				delete(want, at)
			}
			behind = r.To
		}
		if len(want) != 0 {
			t.Fatalf("Charts(%d, %s, %s) = %v, without %v", e, brief(a), brief(b), got, want)
		}
		if (len(got) == 0) != same(a, b) {
			t.Fatalf("Charts(%d, %s, %s) = %v", e, brief(a), brief(b), got)
		}
	}
}
