package diff_test

import (
	"math"
	"slices"
	"testing"

	"caulk/api"
	"caulk/chart"
	"caulk/diff"
)

func TestPatch(t *testing.T) { // 30.2
	a := build(3, disk(1, 0), disk(1, 1), hole, hole, hole, hole, fresh(1), disk(2, 0))
	b := build(3, disk(1, 0), disk(3, 1), fresh(2), hole, disk(4, 0), hole, hole, hole, hole, disk(5, 0))
	with := func(n int, l ...api.Entry) api.Chart { return build(3, append(l, make([]api.Entry, n-len(l))...)...) }
	patches(t, 3, a, b, nil, with(10, disk(1, 0), disk(1, 1), hole, hole, hole, hole, fresh(1), disk(2, 0))) // as many blocks as b has
	patches(t, 3, b, a, nil, with(8, disk(1, 0), disk(3, 1), fresh(2), hole, disk(4, 0)))
	patches(t, 3, a, b, ranges(1, 3), with(10, disk(1, 0), disk(3, 1), fresh(2), hole, hole, hole, fresh(1), disk(2, 0)))
	patches(t, 3, a, b, ranges(0, 1, 3, 4, 9, 10), with(10, disk(1, 0), disk(1, 1), hole, hole, hole, hole, fresh(1), disk(2, 0), hole, disk(5, 0)))
	patches(t, 3, a, b, ranges(6, 8), with(10, disk(1, 0), disk(1, 1))) // b's holes: the table that comes to be holes alone goes
	patches(t, 3, a, b, ranges(7, 8, 4, 5, 7, 8, 4, 6), with(10, disk(1, 0), disk(1, 1), hole, hole, disk(4, 0), hole, fresh(1)))
	patches(t, 3, b, a, ranges(2, 8), with(8, disk(1, 0), disk(3, 1), hole, hole, hole, hole, fresh(1), disk(2, 0)))
	patches(t, 3, b, a, ranges(8, 10, 100, api.MaxBlocks), with(8, disk(1, 0), disk(3, 1), fresh(2), hole, disk(4, 0))) // blocks that b has not
	patches(t, 3, b, a, ranges(0, api.MaxBlocks), a)
	patches(t, 3, a, b, ranges(0, api.MaxBlocks), b)
	patches(t, 3, a, api.Chart{}, ranges(0, 3), api.Chart{})
	patches(t, 3, api.Chart{}, b, nil, api.Chart{Blocks: 10})
	patches(t, 3, api.Chart{}, b, ranges(9, 10), with(10, hole, hole, hole, hole, hole, hole, hole, hole, hole, disk(5, 0)))
	patches(t, 3, a, a, ranges(0, 0, 5, 5, api.MaxBlocks, api.MaxBlocks), a)
	patches(t, 3, a, api.Chart{Blocks: 2}, nil, build(3, disk(1, 0), disk(1, 1))) // the table 0 is cut off
	patches(t, 3, a, api.Chart{Blocks: 6}, ranges(0, 2), api.Chart{Blocks: 6})
}

func TestPatchGreat(t *testing.T) { // 30.2: full maps, at the edges of e
	was, is := make([]api.Entry, api.MaxBlocks), make([]api.Entry, api.MaxBlocks)
	for i := range was {
		was[i], is[i] = disk(i/7, i%7), fresh(1+i)
	}
	want := slices.Clone(was)
	copy(want[5000:], is[5000:30000])
	want[api.MaxBlocks-1] = is[api.MaxBlocks-1]
	for _, e := range []int{1, 64, 100, api.MaxEntries} {
		a, b := build(e, was...), build(e, is...)
		patches(t, e, a, b, ranges(api.MaxBlocks-1, api.MaxBlocks, 5000, 30000), build(e, want...))
		patches(t, e, a, b, ranges(0, api.MaxBlocks), b)
		patches(t, e, a, api.Chart{Blocks: 777}, nil, build(e, was[:777]...))
	}
}

func TestPatchWrong(t *testing.T) { // 30.2: ErrForm, and span.Blocks' error behind it
	good := mix()[6]
	bad := [][]api.Range{
		ranges(-1, 1), ranges(1, 0), ranges(0, 1, 3, 2), ranges(0, api.MaxBlocks+1), ranges(api.MaxBlocks+1, api.MaxBlocks+1), ranges(math.MinInt, math.MaxInt), ranges(math.MaxInt, math.MinInt),
		ranges(0, api.MaxBlocks, 0, 1), ranges(0, api.MaxBlocks, 0, api.MaxBlocks), ranges(-1, -1),
	}
	for _, l := range bad {
		for _, c := range mix() {
			unpatched(t, 3, c, good, l, api.ErrRange)
			unpatched(t, 3, good, c, l, api.ErrRange)
		}
	}
	for _, l := range append(bad, nil, ranges(0, 1)) {
		for _, c := range wrong() {
			unpatched(t, 3, c, good, l, api.ErrForm)
			unpatched(t, 3, good, c, l, api.ErrForm)
			unpatched(t, 3, c, c, l, api.ErrForm)
		}
		for _, e := range []int{-1, 0, 2, 4, math.MinInt, api.MaxEntries + 1, math.MaxInt} {
			unpatched(t, e, good, good, l, api.ErrForm)
			unpatched(t, e, good, api.Chart{}, l, api.ErrForm)
			unpatched(t, e, api.Chart{}, good, l, api.ErrForm)
		}
		for _, e := range []int{-1, 0, api.MaxEntries + 1} {
			unpatched(t, e, api.Chart{}, api.Chart{}, l, api.ErrForm)
		}
	}
}

func TestPatchNewMemory(t *testing.T) { // 30.3
	m := mix()
	for _, l := range [][]api.Range{nil, ranges(0, 2), ranges(0, api.MaxBlocks)} {
		a, b := copied(m[4]), copied(m[6])
		got, _ := diff.Patch(3, a, b, l)
		again, _ := diff.Patch(3, a, b, l)
		was := copied(again)
		for i := range got.Tables {
			for j := range got.Tables[i].L {
				got.Tables[i].L[j] = disk(77, 7)
			}
			got.Tables[i].L = append(got.Tables[i].L, disk(88, 8)) // nor may a table grow into the next one
			got.Tables[i].At = 99
		}
		if !same(a, m[4]) || !same(b, m[6]) || !same(again, was) {
			t.Error("an answer shares something")
		}
	}
	two, _ := diff.Patch(3, m[6], m[6], nil)
	_ = append(two.Tables[0].L, disk(88, 8))
	if !same(two, m[6]) {
		t.Error("the tables of one answer share something")
	}
}

func TestPatchBlockByBlock(t *testing.T) { // 30.2: against blocks that are set one by one
	for seed := range 500 {
		next := draw(uint64(seed))
		e := []int{1, 2, 3, 7, 64, api.MaxEntries}[next(6)]
		a, b := drawn(next, e, 50), drawn(next, e, 50)
		var l []api.Range
		for range next(6) {
			from := next(60)
			l = append(l, api.Range{From: from, To: from + next(15)})
		}
		want, err := chart.Resize(e, a, b.Blocks)
		is(t, "Resize", err, api.OK)
		for _, r := range l {
			for at := r.From; at < min(r.To, b.Blocks); at++ {
				x, _ := get(t, e, b, at)
				want, err = chart.Set(e, want, at, x)
				is(t, "Set", err, api.OK)
			}
		}
		patches(t, e, a, b, l, want)
	}
}

func TestPatchedIsThatOne(t *testing.T) { // 30.4
	m := mix()
	patched := func(e int, a, b api.Chart) {
		t.Helper()
		l, err := diff.Charts(e, a, b)
		is(t, "Charts", err, api.OK)
		patches(t, e, a, b, l, b)
		if (len(l) == 0) != same(a, b) {
			t.Fatalf("Charts(%d, %s, %s) = %v", e, brief(a), brief(b), l)
		}
		differs(t, e, b, b, nil)
	}
	for _, a := range m {
		for _, b := range m {
			patched(3, a, b)
		}
	}
	for seed := range 500 {
		next := draw(uint64(seed))
		e := []int{1, 2, 3, 7, 64, api.MaxEntries}[next(6)]
		patched(e, drawn(next, e, 90), drawn(next, e, 90))
	}
}
