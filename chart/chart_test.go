package chart_test

import (
	"maps"
	"math"
	"slices"
	"testing"

	"caulk/api"
	"caulk/chart"
)

// twin is a map told plainly: of each block that is no hole the entry.
type twin map[int]api.Entry

// shape is a map, and how many entries its tables have.
type shape struct {
	e int
	c api.Chart
}

// disk is the entry of a member of a stripe.
func disk(stripe, member int) api.Entry {
	return api.Entry{Kind: api.EntryDisk, Place: api.Place{Stripe: stripe, Member: member}}
}

// fresh is the entry of fresh data.
func fresh(n int) api.Entry {
	return api.Entry{Kind: api.EntryFresh, Fresh: n}
}

// table is the table At of these entries.
func table(at int, l ...api.Entry) api.Table {
	return api.Table{At: at, L: l}
}

// build is the map of so many blocks that the twin tells.
func build(e, blocks int, w twin) api.Chart {
	c := api.Chart{Blocks: blocks}
	for _, b := range slices.Sorted(maps.Keys(w)) {
		n := len(c.Tables)
		if n == 0 || c.Tables[n-1].At != b/e {
			c.Tables = append(c.Tables, table(b/e, make([]api.Entry, e)...))
			n++
		}
		c.Tables[n-1].L[b%e] = w[b]
	}
	return c
}

// same tells whether two maps are one.
func same(a, b api.Chart) bool {
	return a.Blocks == b.Blocks && slices.EqualFunc(a.Tables, b.Tables, func(s, t api.Table) bool {
		return s.At == t.At && slices.Equal(s.L, t.L)
	})
}

// blank tells whether nothing is in c, not even blocks.
func blank(c api.Chart) bool {
	return c.Blocks == 0 && len(c.Tables) == 0
}

// copied is c in memory of its own.
func copied(c api.Chart) api.Chart {
	next := api.Chart{Blocks: c.Blocks}
	for _, t := range c.Tables {
		next.Tables = append(next.Tables, table(t.At, slices.Clone(t.L)...))
	}
	return next
}

// spoil changes all that c can reach.
func spoil(c api.Chart) {
	for i := range c.Tables {
		for j := range c.Tables[i].L {
			c.Tables[i].L[j] = disk(666, 6)
		}
		c.Tables[i].At = 66
	}
}

// right are right maps.
func right() []shape {
	x, y := disk(4, 1), fresh(7)
	hole := api.Entry{}
	many := twin{}
	for b := 0; b < api.MaxBlocks; b += 3 {
		many[b] = disk(b, b%api.MaxPieces)
	}
	return []shape{
		{1, api.Chart{}},
		{4, api.Chart{}},
		{api.MaxEntries, api.Chart{}},
		{4, api.Chart{Tables: []api.Table{}}},
		{4, api.Chart{Blocks: 1}},
		{4, api.Chart{Blocks: api.MaxBlocks}},
		{4, api.Chart{Blocks: 1, Tables: []api.Table{table(0, x, hole, hole, hole)}}},
		{4, api.Chart{Blocks: 3, Tables: []api.Table{table(0, hole, x, y, hole)}}},
		{4, api.Chart{Blocks: 4, Tables: []api.Table{table(0, x, hole, x, y)}}},
		{4, api.Chart{Blocks: 5, Tables: []api.Table{table(1, y, hole, hole, hole)}}},
		{4, api.Chart{Blocks: 8, Tables: []api.Table{table(0, hole, hole, hole, y), table(1, hole, hole, hole, x)}}},
		{4, api.Chart{Blocks: 9, Tables: []api.Table{table(0, x, x, x, x), table(2, y, hole, hole, hole)}}},
		{4, api.Chart{Blocks: 30, Tables: []api.Table{table(1, x, x, hole, x), table(3, y, hole, hole, hole), table(7, x, y, hole, hole)}}},
		{1, api.Chart{Blocks: 4, Tables: []api.Table{table(0, x), table(1, y), table(3, disk(api.MaxId-1, api.MaxPieces-1))}}},
		{1, api.Chart{Blocks: api.MaxBlocks, Tables: []api.Table{table(0, x), table(api.MaxBlocks-1, fresh(api.MaxFresh))}}},
		{3, build(3, 100, twin{0: x, 2: y, 50: x, 98: y, 99: x})},
		{64, build(64, 1000, twin{63: x, 64: y, 512: x, 959: y, 960: x, 999: y})},
		{1000, build(1000, 999, twin{0: x, 998: y})},
		{api.MaxEntries, build(api.MaxEntries, 1, twin{0: x})},
		{api.MaxEntries, build(api.MaxEntries, api.MaxBlocks, twin{0: x, api.MaxEntries - 1: y, api.MaxBlocks - 1: x})},
		{64, build(64, api.MaxBlocks, many)},
	}
}

// wrong are maps that are not right.
func wrong() []shape {
	x := disk(4, 1)
	hole := api.Entry{}
	l := []shape{
		{4, api.Chart{Blocks: -1}},
		{4, api.Chart{Blocks: math.MinInt}},
		{4, api.Chart{Blocks: api.MaxBlocks + 1}},
		{4, api.Chart{Blocks: 1 << 32}},
		{4, api.Chart{Blocks: math.MaxInt}},
		{1, api.Chart{Tables: []api.Table{table(0, x)}}}, // no blocks, but a table
		{4, api.Chart{Tables: []api.Table{table(0, x, hole, hole, hole)}}},
		{4, api.Chart{Tables: []api.Table{table(0, hole, hole, hole, hole)}}},
		{4, api.Chart{Blocks: 4, Tables: []api.Table{table(0, hole, hole, hole, hole)}}}, // holes alone
		{4, api.Chart{Blocks: 8, Tables: []api.Table{table(0, x, x, x, x), table(1, hole, hole, hole, hole)}}},
		{4, api.Chart{Blocks: 4, Tables: []api.Table{table(1, x, hole, hole, hole)}}}, // behind all blocks
		{4, api.Chart{Blocks: 3, Tables: []api.Table{table(1, x, hole, hole, hole)}}},
		{4, api.Chart{Blocks: 5, Tables: []api.Table{table(2, x, hole, hole, hole)}}},
		{4, api.Chart{Blocks: 8, Tables: []api.Table{table(2, hole, hole, hole, hole)}}},
		{4, api.Chart{Blocks: 3, Tables: []api.Table{table(0, x, hole, hole, x)}}}, // no hole behind all blocks
		{4, api.Chart{Blocks: 3, Tables: []api.Table{table(0, hole, hole, hole, x)}}},
		{4, api.Chart{Blocks: 5, Tables: []api.Table{table(0, x, x, x, x), table(1, x, fresh(1), hole, hole)}}},
		{4, api.Chart{Blocks: 8, Tables: []api.Table{table(1, x, x, x, x), table(0, x, x, x, x)}}}, // not rising
		{4, api.Chart{Blocks: 8, Tables: []api.Table{table(0, x, x, x, x), table(0, x, x, x, x)}}},
		{4, api.Chart{Blocks: 8, Tables: []api.Table{table(1, x, x, x, x), table(1, x, x, x, x)}}},
		{4, api.Chart{Blocks: 20, Tables: []api.Table{table(1, x, x, x, x), table(4, x, x, x, x), table(3, x, x, x, x)}}},
		{4, api.Chart{Blocks: 8, Tables: []api.Table{table(0)}}}, // not so many entries
		{4, api.Chart{Blocks: 8, Tables: []api.Table{{At: 0, L: nil}}}},
		{4, api.Chart{Blocks: 8, Tables: []api.Table{table(0, x, x, x)}}},
		{4, api.Chart{Blocks: 3, Tables: []api.Table{table(0, x, x, x)}}},
		{4, api.Chart{Blocks: 8, Tables: []api.Table{table(0, x, x, x, x, hole)}}},
		{4, api.Chart{Blocks: 8, Tables: []api.Table{table(0, x, x, x, x, x, x, x, x)}}},
		{4, api.Chart{Blocks: 8, Tables: []api.Table{table(0, x, x, x, x), table(1, x, x, x)}}},
	}
	for _, at := range []int{-1, -2, math.MinInt, 2, 3, 1 << 30, 1 << 32, 1 << 62, 1<<62 + 1, math.MaxInt} { // times 4 some of these are 0, or 4
		l = append(l, shape{4, api.Chart{Blocks: 8, Tables: []api.Table{table(at, x, x, x, x)}}})
		l = append(l, shape{4, api.Chart{Blocks: 8, Tables: []api.Table{table(0, x, x, x, x), table(at, x, hole, hole, hole)}}})
	}
	for _, y := range []api.Entry{disk(-1, 0), disk(api.MaxId, 0), disk(0, -1), disk(0, api.MaxPieces), fresh(0), fresh(-1), fresh(api.MaxFresh + 1), {Kind: 3}, {Kind: 255}, {Fresh: 1}, {Place: api.Place{Member: 1}}, {Kind: api.EntryFresh, Place: api.Place{Stripe: 1}, Fresh: 1}} {
		l = append(l, shape{4, api.Chart{Blocks: 8, Tables: []api.Table{table(0, y, x, x, x)}}})
		l = append(l, shape{4, api.Chart{Blocks: 8, Tables: []api.Table{table(0, x, x, x, x), table(1, x, hole, hole, y)}}})
		l = append(l, shape{4, api.Chart{Blocks: 7, Tables: []api.Table{table(1, x, hole, hole, y)}}}) // behind all blocks
	}
	for _, e := range []int{0, -1, -4, math.MinInt, api.MaxEntries + 1, 1 << 32, 1<<32 + 4, math.MaxInt} { // no such e
		l = append(l, shape{e, api.Chart{}}, shape{e, api.Chart{Blocks: 4}}, shape{e, api.Chart{Blocks: 4, Tables: []api.Table{table(0, x, x, x, x)}}})
		l = append(l, shape{e, api.Chart{Blocks: 4, Tables: []api.Table{table(0)}}})
	}
	most := slices.Repeat([]api.Entry{x}, api.MaxEntries+1)
	l = append(l, shape{api.MaxEntries + 1, api.Chart{Blocks: api.MaxBlocks, Tables: []api.Table{table(0, most...)}}})
	return l
}

func TestCheck(t *testing.T) { // 14.1
	for _, x := range right() {
		was := copied(x.c)
		if err := chart.Check(x.e, x.c); err != api.OK {
			t.Errorf("Check(%d, a map of %d blocks, %d tables) = %d", x.e, x.c.Blocks, len(x.c.Tables), err)
		}
		if !same(x.c, was) {
			t.Error("what was handed in is changed")
		}
	}
	for i, x := range wrong() {
		if err := chart.Check(x.e, x.c); err != api.ErrForm {
			t.Errorf("Check of the wrong map %d (%d, %d blocks) = %d", i, x.e, x.c.Blocks, err)
		}
	}
}

func TestCheckFirst(t *testing.T) { // 14.1: ahead of all other errors, and all else zero
	for i, x := range wrong() {
		for _, n := range []int{-1, 0, 1, math.MaxInt} {
			if got, err := chart.Get(x.e, x.c, n); got != (api.Entry{}) || err != api.ErrForm {
				t.Errorf("Get of the wrong map %d = %v, %d", i, got, err)
			}
			for _, y := range []api.Entry{{}, disk(1, 1), {Fresh: 1}} {
				if got, err := chart.Set(x.e, x.c, n, y); !blank(got) || err != api.ErrForm {
					t.Errorf("Set of the wrong map %d = %v, %d", i, got, err)
				}
				if got, k, err := chart.Swap(x.e, x.c, disk(4, 1), y); !blank(got) || k != 0 || err != api.ErrForm {
					t.Errorf("Swap of the wrong map %d = %v, %d, %d", i, got, k, err)
				}
			}
			if got, err := chart.Resize(x.e, x.c, n); !blank(got) || err != api.ErrForm {
				t.Errorf("Resize of the wrong map %d = %v, %d", i, got, err)
			}
		}
		if blocks, entries, err := chart.All(x.e, x.c); blocks != nil || entries != nil || err != api.ErrForm {
			t.Errorf("All of the wrong map %d = %v, %v, %d", i, blocks, entries, err)
		}
	}
}

func TestNew(t *testing.T) { // 14.1
	for _, n := range []int{0, 1, 2, 100, api.MaxBlocks - 1, api.MaxBlocks} {
		got, err := chart.New(n)
		if !same(got, api.Chart{Blocks: n}) || err != api.OK {
			t.Errorf("New(%d) = %v, %d", n, got, err)
		}
		for _, e := range []int{1, 42, api.MaxEntries} {
			if err := chart.Check(e, got); err != api.OK {
				t.Errorf("Check(%d, New(%d)) = %d", e, n, err)
			}
		}
	}
	for _, n := range []int{-1, math.MinInt, api.MaxBlocks + 1, 1 << 32, math.MaxInt} {
		if got, err := chart.New(n); !blank(got) || err != api.ErrRange {
			t.Errorf("New(%d) = %v, %d", n, got, err)
		}
	}
}

func TestGet(t *testing.T) { // 14.1
	x, y, z := disk(4, 1), fresh(7), disk(4, 2)
	c := api.Chart{Blocks: 14, Tables: []api.Table{table(0, x, api.Entry{}, y, x), table(2, api.Entry{}, z, x, y), table(3, y, z, api.Entry{}, api.Entry{})}}
	want := []api.Entry{x, {}, y, x, {}, {}, {}, {}, {}, z, x, y, y, z}
	for b, w := range want {
		if got, err := chart.Get(4, c, b); got != w || err != api.OK {
			t.Errorf("Get(%d) = %v, %d, not %v", b, got, err, w)
		}
	}
	for _, b := range []int{-1, -4, math.MinInt, 14, 15, 16, 1 << 32, math.MaxInt} {
		if got, err := chart.Get(4, c, b); got != (api.Entry{}) || err != api.ErrRange {
			t.Errorf("Get(%d) = %v, %d", b, got, err)
		}
	}
	if got, err := chart.Get(4, api.Chart{}, 0); got != (api.Entry{}) || err != api.ErrRange {
		t.Errorf("Get(of no blocks, 0) = %v, %d", got, err)
	}
	for _, s := range right() {
		blocks, entries, _ := chart.All(s.e, s.c)
		for i := 0; i < len(blocks); i += 1 + len(blocks)/50 {
			if got, err := chart.Get(s.e, s.c, blocks[i]); got != entries[i] || err != api.OK {
				t.Errorf("Get(%d) = %v, %d, not %v", blocks[i], got, err, entries[i])
			}
		}
	}
}

func TestAll(t *testing.T) { // 14.1
	x, y, z := disk(4, 1), fresh(7), disk(4, 2)
	c := api.Chart{Blocks: 14, Tables: []api.Table{table(0, x, api.Entry{}, y, x), table(2, api.Entry{}, z, x, y), table(3, y, z, api.Entry{}, api.Entry{})}}
	blocks, entries, err := chart.All(4, c)
	if !slices.Equal(blocks, []int{0, 2, 3, 9, 10, 11, 12, 13}) || !slices.Equal(entries, []api.Entry{x, y, x, z, x, y, y, z}) || err != api.OK {
		t.Errorf("All = %v, %v, %d", blocks, entries, err)
	}
	for _, s := range right() {
		was := copied(s.c)
		blocks, entries, err := chart.All(s.e, s.c)
		w := twin{}
		for i, b := range blocks {
			w[b] = entries[i]
		}
		if len(blocks) != len(entries) || !slices.IsSorted(blocks) || len(w) != len(blocks) || !same(build(s.e, s.c.Blocks, w), s.c) || err != api.OK {
			t.Errorf("All of a map of %d blocks = %d blocks, %d entries, %d", s.c.Blocks, len(blocks), len(entries), err)
		}
		if !same(s.c, was) {
			t.Error("what was handed in is changed")
		}
	}
}

func TestSet(t *testing.T) { // 14.2
	x, y, hole := disk(4, 1), fresh(7), api.Entry{}
	none := api.Chart{Blocks: 10}
	first := api.Chart{Blocks: 10, Tables: []api.Table{table(0, x, hole, hole, hole)}}
	last := api.Chart{Blocks: 10, Tables: []api.Table{table(2, hole, x, hole, hole)}}
	both := api.Chart{Blocks: 10, Tables: []api.Table{table(0, x, hole, hole, hole), table(2, hole, x, hole, hole)}}
	all := api.Chart{Blocks: 10, Tables: []api.Table{table(0, x, hole, hole, hole), table(1, hole, hole, y, hole), table(2, hole, x, hole, hole)}}
	two := api.Chart{Blocks: 10, Tables: []api.Table{table(0, x, hole, hole, y)}}
	for _, s := range []struct {
		was  api.Chart
		b    int
		x    api.Entry
		want api.Chart
		err  api.Errno
	}{
		{none, 0, x, first, api.OK},
		{none, 9, x, last, api.OK},
		{none, 5, hole, none, api.OK},
		{first, 9, x, both, api.OK},
		{last, 0, x, both, api.OK},
		{both, 6, y, all, api.OK},
		{both, 6, hole, both, api.OK},
		{all, 6, hole, both, api.OK}, // the table goes, as it is holes alone
		{both, 0, hole, last, api.OK},
		{both, 9, hole, first, api.OK},
		{both, 8, hole, both, api.OK},
		{first, 0, hole, none, api.OK},
		{first, 0, x, first, api.OK},
		{first, 3, y, two, api.OK},
		{two, 3, hole, first, api.OK},
		{first, 0, y, api.Chart{Blocks: 10, Tables: []api.Table{table(0, y, hole, hole, hole)}}, api.OK},
		{first, 0, fresh(api.MaxFresh), api.Chart{Blocks: 10, Tables: []api.Table{table(0, fresh(api.MaxFresh), hole, hole, hole)}}, api.OK},
		{all, 10, x, all, api.ErrRange},
		{all, 11, x, all, api.ErrRange}, // in the last table, but behind all blocks
		{all, 11, hole, all, api.ErrRange},
		{all, 12, x, all, api.ErrRange},
		{all, -1, x, all, api.ErrRange},
		{all, math.MinInt, x, all, api.ErrRange},
		{all, math.MaxInt, x, all, api.ErrRange},
		{all, 1 << 32, x, all, api.ErrRange},
		{api.Chart{}, 0, x, api.Chart{}, api.ErrRange},
		{all, 10, fresh(0), all, api.ErrRange}, // that is ahead of that x is not right
		{all, -1, disk(-1, 0), all, api.ErrRange},
		{all, 9, fresh(0), all, api.ErrForm},
		{all, 0, fresh(api.MaxFresh + 1), all, api.ErrForm},
		{all, 0, disk(api.MaxId, 0), all, api.ErrForm},
		{all, 1, disk(0, api.MaxPieces), all, api.ErrForm},
		{none, 1, api.Entry{Fresh: 1}, none, api.ErrForm},
		{none, 1, api.Entry{Kind: 3}, none, api.ErrForm},
	} {
		was := copied(s.was)
		if got, err := chart.Set(4, s.was, s.b, s.x); !same(got, s.want) || err != s.err {
			t.Errorf("Set(%v, %d, %v) = %v, %d, not %v, %d", was, s.b, s.x, got, err, s.want, s.err)
		}
		if !same(s.was, was) {
			t.Errorf("of %v what was handed in is changed: %v", was, s.was)
		}
	}
}

func TestResize(t *testing.T) { // 14.2
	x, y, hole := disk(4, 1), fresh(7), api.Entry{}
	tables := []api.Table{table(0, x, hole, hole, y), table(2, hole, x, hole, y), table(3, hole, y, hole, hole)}
	c := api.Chart{Blocks: 14, Tables: tables}
	third := []api.Table{tables[0], table(2, hole, x, hole, hole)}
	for _, s := range []struct {
		blocks int
		want   []api.Table
		err    api.Errno
	}{
		{14, tables, api.OK},
		{15, tables, api.OK},
		{16, tables, api.OK},
		{17, tables, api.OK},
		{api.MaxBlocks, tables, api.OK},
		{13, tables[:2], api.OK}, // a table goes, as it comes to be holes alone
		{12, tables[:2], api.OK},
		{11, third, api.OK},
		{10, third, api.OK},
		{9, tables[:1], api.OK},
		{8, tables[:1], api.OK},
		{5, tables[:1], api.OK},
		{4, tables[:1], api.OK},
		{3, []api.Table{table(0, x, hole, hole, hole)}, api.OK},
		{1, []api.Table{table(0, x, hole, hole, hole)}, api.OK},
		{0, nil, api.OK},
		{-1, tables, api.ErrRange},
		{math.MinInt, tables, api.ErrRange},
		{api.MaxBlocks + 1, tables, api.ErrRange},
		{1 << 32, tables, api.ErrRange},
		{math.MaxInt, tables, api.ErrRange},
	} {
		was, want := copied(c), api.Chart{Blocks: s.blocks, Tables: s.want}
		if s.err != api.OK {
			want = c
		}
		got, err := chart.Resize(4, c, s.blocks)
		if !same(got, want) || err != s.err {
			t.Errorf("Resize(%d) = %v, %d, not %v, %d", s.blocks, got, err, want, s.err)
		}
		if !same(c, was) {
			t.Fatalf("Resize(%d) changes what was handed in", s.blocks)
		}
		if err == api.OK && chart.Check(4, got) != api.OK {
			t.Errorf("Resize(%d) is not right: %v", s.blocks, got)
		}
	}
	less, _ := chart.Resize(4, c, 10)
	if got, err := chart.Resize(4, less, 14); !same(got, api.Chart{Blocks: 14, Tables: third}) || err != api.OK { // what went does not come again
		t.Errorf("Resize to less, and back = %v, %d", got, err)
	}
}

func TestSwap(t *testing.T) { // 14.2
	x, y, z, hole := disk(4, 1), fresh(7), disk(4, 2), api.Entry{}
	c := api.Chart{Blocks: 14, Tables: []api.Table{table(0, x, hole, y, x), table(2, hole, z, hole, hole), table(3, y, x, hole, hole)}}
	for _, s := range []struct {
		was, is api.Entry
		want    []api.Table
		n       int
		err     api.Errno
	}{
		{x, fresh(9), []api.Table{table(0, fresh(9), hole, y, fresh(9)), table(2, hole, z, hole, hole), table(3, y, fresh(9), hole, hole)}, 3, api.OK},
		{x, y, []api.Table{table(0, y, hole, y, y), table(2, hole, z, hole, hole), table(3, y, y, hole, hole)}, 3, api.OK},
		{y, x, []api.Table{table(0, x, hole, x, x), table(2, hole, z, hole, hole), table(3, x, x, hole, hole)}, 2, api.OK},
		{x, x, c.Tables, 3, api.OK},
		{x, hole, []api.Table{table(0, hole, hole, y, hole), table(2, hole, z, hole, hole), table(3, y, hole, hole, hole)}, 3, api.OK},
		{z, hole, []api.Table{c.Tables[0], c.Tables[2]}, 1, api.OK}, // a table goes
		{hole, x, c.Tables, 0, api.OK},
		{hole, hole, c.Tables, 0, api.OK},
		{disk(4, 3), x, c.Tables, 0, api.OK},
		{disk(1, 4), x, c.Tables, 0, api.OK},
		{fresh(8), x, c.Tables, 0, api.OK},
		{disk(-1, 0), x, c.Tables, 0, api.OK}, // what is not right is nowhere
		{api.Entry{Kind: api.EntryDisk, Place: x.Place, Fresh: 7}, x, c.Tables, 0, api.OK},
		{api.Entry{Fresh: 7}, x, c.Tables, 0, api.OK},
		{api.Entry{Kind: 3}, x, c.Tables, 0, api.OK},
		{x, disk(-1, 0), c.Tables, 0, api.ErrForm},
		{x, disk(api.MaxId, 0), c.Tables, 0, api.ErrForm},
		{x, fresh(0), c.Tables, 0, api.ErrForm},
		{x, api.Entry{Kind: 3}, c.Tables, 0, api.ErrForm},
		{x, api.Entry{Fresh: 1}, c.Tables, 0, api.ErrForm},
		{hole, fresh(api.MaxFresh + 1), c.Tables, 0, api.ErrForm},
		{disk(9, 9), fresh(0), c.Tables, 0, api.ErrForm},
	} {
		was, want := copied(c), api.Chart{Blocks: 14, Tables: s.want}
		if got, n, err := chart.Swap(4, c, s.was, s.is); !same(got, want) || n != s.n || err != s.err {
			t.Errorf("Swap(%v, %v) = %v, %d, %d, not %v, %d, %d", s.was, s.is, got, n, err, want, s.n, s.err)
		}
		if !same(c, was) {
			t.Fatalf("Swap(%v, %v) changes what was handed in", s.was, s.is)
		}
	}
	one := api.Chart{Blocks: 3, Tables: []api.Table{table(0, x, hole, x, hole)}}
	if got, n, err := chart.Swap(4, one, x, hole); !same(got, api.Chart{Blocks: 3}) || n != 2 || err != api.OK {
		t.Errorf("Swap of all = %v, %d, %d", got, n, err)
	}
}

// step changes c, and its twin likewise, by what seed says.
func step(t *testing.T, e int, c api.Chart, w twin, seed uint32) api.Chart {
	entries := []api.Entry{{}, {}, {}, disk(1, 0), disk(1, 1), disk(2, 0), fresh(1), fresh(2)}
	x, y := entries[seed>>8%8], entries[seed>>12%8]
	n, err := 0, api.OK
	switch kind := seed >> 28; {
	case kind == 0:
		blocks := int(seed>>16) % 90
		c, err = chart.Resize(e, c, blocks)
		maps.DeleteFunc(w, func(b int, _ api.Entry) bool { return b >= blocks })
	case kind == 1:
		want := 0
		for b, z := range maps.Clone(w) {
			if z != x {
				continue
			}
			want++
			w[b] = y
			if y == (api.Entry{}) {
				delete(w, b)
			}
		}
		if c, n, err = chart.Swap(e, c, x, y); n != want {
			t.Fatalf("Swap(%v, %v) = %d, not %d", x, y, n, want)
		}
	case c.Blocks > 0:
		b := int(seed>>16) % c.Blocks
		c, err = chart.Set(e, c, b, x)
		w[b] = x
		if x == (api.Entry{}) {
			delete(w, b)
		}
	}
	if err != api.OK {
		t.Fatalf("of %d entries a table a change = %d", e, err)
	}
	return c
}

func TestPlay(t *testing.T) { // 14.2, 14.4: changes of all kinds, against a plain twin
	for _, e := range []int{1, 2, 3, 7, 64, 100, api.MaxEntries} {
		c, _ := chart.New(40)
		w := twin{}
		seed := uint32(e)
		for range 600 {
			seed = seed*1664525 + 1013904223
			c = step(t, e, c, w, seed^seed>>15)
			if chart.Check(e, c) != api.OK || !same(c, build(e, c.Blocks, w)) {
				t.Fatalf("of %d entries a table the map is %v, not of %v", e, c, w)
			}
			b := int(seed>>16) % 90
			got, err := chart.Get(e, c, b)
			if b < c.Blocks && (got != w[b] || err != api.OK) {
				t.Fatalf("Get(%d) = %v, %d, not %v", b, got, err, w[b])
			}
			if b >= c.Blocks && (got != api.Entry{} || err != api.ErrRange) {
				t.Fatalf("Get(%d) of %d blocks = %v, %d", b, c.Blocks, got, err)
			}
		}
	}
}

func TestLast(t *testing.T) { // 14.4: what is set is had, and nothing beside it changes
	for _, s := range right() {
		blocks, entries, _ := chart.All(s.e, s.c)
		w := twin{}
		for i, b := range blocks {
			w[b] = entries[i]
		}
		for _, b := range []int{0, 1, s.e - 1, s.e, s.c.Blocks / 2, s.c.Blocks - 1} {
			if b < 0 || b >= s.c.Blocks {
				continue
			}
			set := maps.Clone(w)
			set[b] = disk(77, 7)
			got, err := chart.Set(s.e, s.c, b, set[b])
			if !same(got, build(s.e, s.c.Blocks, set)) || chart.Check(s.e, got) != api.OK || err != api.OK {
				t.Errorf("Set(%d) of a map of %d blocks = %d", b, s.c.Blocks, err)
			}
			delete(set, b)
			got, err = chart.Set(s.e, got, b, api.Entry{})
			if !same(got, build(s.e, s.c.Blocks, set)) || chart.Check(s.e, got) != api.OK || err != api.OK {
				t.Errorf("Set(%d) of a map of %d blocks to a hole = %d", b, s.c.Blocks, err)
			}
		}
	}
}

func TestNewMemory(t *testing.T) { // 14.3: beside an error, too
	x, y := disk(4, 1), fresh(7)
	c := build(4, 14, twin{0: x, 2: y, 9: x, 13: y})
	was := copied(c)
	answers := map[string]func() api.Chart{}
	for _, b := range []int{0, 1, 5, 9, 14, -1} {
		for _, z := range []api.Entry{{}, x, fresh(0)} {
			answers["Set"] = func() api.Chart { got, _ := chart.Set(4, c, b, z); return got }
			answers["Swap"] = func() api.Chart { got, _, _ := chart.Swap(4, c, x, z); return got }
			answers["Swap of a hole"] = func() api.Chart { got, _, _ := chart.Swap(4, c, api.Entry{}, z); return got }
			answers["Resize"] = func() api.Chart { got, _ := chart.Resize(4, c, b); return got }
			answers["Resize to as many"] = func() api.Chart { got, _ := chart.Resize(4, c, 14); return got }
			for say, ask := range answers {
				spoil(ask())
				if !same(c, was) {
					t.Fatalf("%s shares what was handed in", say)
				}
				got := ask()
				for i := range got.Tables { // no list of an answer has room that is another one's
					want := copied(got)
					want.Tables[i].L = append(want.Tables[i].L, x)
					got.Tables[i].L = append(got.Tables[i].L, x)
					if !same(got, want) {
						t.Fatalf("%s answers lists that share memory", say)
					}
				}
			}
		}
	}
	blocks, entries, _ := chart.All(4, c)
	blocks[0], entries[0] = 5, disk(666, 6)
	if again, l, _ := chart.All(4, c); again[0] != 0 || l[0] != x || !same(c, was) {
		t.Error("All shares what it answered")
	}
}
