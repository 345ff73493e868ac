package diff_test

import (
	"fmt"
	"reflect"
	"slices"
	"testing"

	"caulk/api"
	"caulk/chart"
	"caulk/diff"
)

// hole is the entry of a hole.
var hole = api.Entry{}

// disk is the entry of a member of a stripe.
func disk(stripe, member int) api.Entry {
	return api.Entry{Kind: api.EntryDisk, Place: api.Place{Stripe: stripe, Member: member}}
}

// fresh is the entry of fresh data.
func fresh(n int) api.Entry {
	return api.Entry{Kind: api.EntryFresh, Fresh: n}
}

// build is a map of tables of e entries that has these entries, one a block.
func build(e int, l ...api.Entry) api.Chart {
	c := api.Chart{Blocks: len(l)}
	for at := 0; at*e < len(l); at++ {
		part := make([]api.Entry, e)
		copy(part, l[at*e:])
		if slices.ContainsFunc(part, func(x api.Entry) bool { return x != hole }) {
			c.Tables = append(c.Tables, api.Table{At: at, L: part})
		}
	}
	return c
}

// ranges is From, To, From, To ..
func ranges(l ...int) []api.Range {
	var all []api.Range
	for i := 0; i < len(l); i += 2 {
		all = append(all, api.Range{From: l[i], To: l[i+1]})
	}
	return all
}

// copied is c in memory of its own.
func copied(c api.Chart) api.Chart {
	c.Tables = slices.Clone(c.Tables)
	for i, t := range c.Tables {
		c.Tables[i].L = slices.Clone(t.L)
	}
	return c
}

// same tells whether two maps are one.
func same(a, b api.Chart) bool {
	return a.Blocks == b.Blocks && slices.EqualFunc(a.Tables, b.Tables, func(s, t api.Table) bool {
		return s.At == t.At && slices.Equal(s.L, t.L)
	})
}

// wrong are maps that are not right, of tables of 3 entries.
func wrong() []api.Chart {
	x := disk(1, 1)
	return []api.Chart{
		{Blocks: -1},
		{Blocks: api.MaxBlocks + 1},
		{Blocks: 3, Tables: []api.Table{{L: []api.Entry{x, x}}}},
		{Blocks: 3, Tables: []api.Table{{L: []api.Entry{x, x, x, x}}}},
		{Blocks: 3, Tables: []api.Table{{L: []api.Entry{hole, hole, hole}}}},
		{Blocks: 2, Tables: []api.Table{{L: []api.Entry{x, x, x}}}},
		{Blocks: 3, Tables: []api.Table{{At: 1, L: []api.Entry{x, x, x}}}},
		{Blocks: 3, Tables: []api.Table{{At: -1, L: []api.Entry{x, x, x}}}},
		{Blocks: 6, Tables: []api.Table{{At: 1, L: []api.Entry{x, x, x}}, {L: []api.Entry{x, x, x}}}},
		{Blocks: 6, Tables: []api.Table{{L: []api.Entry{x, x, x}}, {L: []api.Entry{x, x, x}}}},
		build(3, disk(-1, 0)),
		build(3, disk(api.MaxId, 0)),
		build(3, disk(0, api.MaxPieces)),
		build(3, fresh(0)),
		build(3, fresh(api.MaxFresh+1)),
		build(3, api.Entry{Kind: 3}),
		build(3, api.Entry{Fresh: 1}),
		build(3, api.Entry{Kind: api.EntryDisk, Fresh: 1}),
	}
}

// mix are maps of tables of 3 entries, of many kinds and sizes.
func mix() []api.Chart {
	return []api.Chart{
		{},
		build(3, hole),
		build(3, hole, hole, hole, hole),
		build(3, disk(1, 0)),
		build(3, hole, disk(1, 0), hole, hole, hole, hole, fresh(1)),
		build(3, hole, disk(1, 0), hole, hole, hole, hole, fresh(2)),
		build(3, fresh(1), disk(1, 0), hole, disk(1, 0), hole, disk(1, 1), hole, hole, hole, hole),
		build(3, disk(0, 1), disk(1, 1), disk(2, 1), disk(api.MaxId-1, api.MaxPieces-1), fresh(api.MaxFresh)),
		{Blocks: api.MaxBlocks},
	}
}

// draw is a row of numbers that look like chance, and are always the same.
func draw(seed uint64) func(n int) int {
	return func(n int) int {
		seed = seed*6364136223846793005 + 1442695040888963407
		return int(seed>>33) % n
	}
}

// drawn is a map of up to so many blocks less one, with entries of few kinds, so that many are alike.
func drawn(next func(int) int, e, blocks int) api.Chart {
	l := make([]api.Entry, next(blocks))
	for i := range l {
		l[i] = []api.Entry{hole, hole, fresh(1 + next(3)), disk(next(3), next(2)), disk(next(20), next(3))}[next(5)]
	}
	return build(e, l...)
}

// brief is x as text, not more of it than can be read.
func brief(x any) string {
	s := fmt.Sprintf("%+v", x)
	return s[:min(len(s), 600)]
}

// is ends a test, if what a call answered is another error.
func is(t *testing.T, say string, got, want api.Errno) {
	t.Helper()
	if got != want {
		t.Fatalf("%s = %d, not %d", say, got, want)
	}
}

// get is the entry of a block; a hole and false, if the map has no such block.
func get(t *testing.T, e int, c api.Chart, b int) (api.Entry, bool) {
	t.Helper()
	if b >= c.Blocks {
		return hole, false
	}
	x, err := chart.Get(e, c, b)
	is(t, "chart.Get", err, api.OK)
	return x, true
}

// differs ends a test, if two maps differ elsewhere, whichever of both is ahead.
func differs(t *testing.T, e int, a, b api.Chart, want []api.Range) {
	t.Helper()
	was, then := copied(a), copied(b)
	for range 3 { // whatever the order is in which entries are kept
		if got, err := diff.Charts(e, a, b); !slices.Equal(got, want) || err != api.OK {
			t.Fatalf("Charts(%d, %s, %s) = %s, %d, not %s", e, brief(a), brief(b), brief(got), err, brief(want))
		}
		if got, err := diff.Charts(e, b, a); !slices.Equal(got, want) || err != api.OK {
			t.Fatalf("Charts(%d, %s, %s) = %s, %d, not %s", e, brief(b), brief(a), brief(got), err, brief(want))
		}
	}
	if !same(a, was) || !same(b, then) {
		t.Fatal("what was handed in is changed")
	}
}

// patches ends a test, if a map that is patched is another one.
func patches(t *testing.T, e int, a, b api.Chart, l []api.Range, want api.Chart) {
	t.Helper()
	was, then, list := copied(a), copied(b), slices.Clone(l)
	got, err := diff.Patch(e, a, b, l)
	if !same(got, want) || err != api.OK {
		t.Fatalf("Patch(%d, %s, %s, %s) = %s, %d, not %s", e, brief(a), brief(b), brief(l), brief(got), err, brief(want))
	}
	is(t, "Check of what was patched", chart.Check(e, got), api.OK)
	if !same(a, was) || !same(b, then) || !slices.Equal(l, list) {
		t.Fatal("what was handed in is changed")
	}
}

// unpatched ends a test, if a map is patched, or is not for another reason.
func unpatched(t *testing.T, e int, a, b api.Chart, l []api.Range, want api.Errno) {
	t.Helper()
	got, err := diff.Patch(e, a, b, l)
	if !reflect.DeepEqual(got, api.Chart{}) || err != want {
		t.Fatalf("Patch(%d, %s, %s, %s) = %s, %d, not %d", e, brief(a), brief(b), brief(l), brief(got), err, want)
	}
}

// shares ends a test, if the maps share another number of blocks.
func shares(t *testing.T, e, want int, l ...api.Chart) {
	t.Helper()
	if got, err := diff.Shared(e, l...); got != want || err != api.OK {
		t.Fatalf("Shared(%d, %s) = %d, %d, not %d", e, brief(l), got, err, want)
	}
}
