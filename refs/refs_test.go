package refs_test

import (
	"math"
	"slices"
	"testing"

	"caulk/api"
	"caulk/chart"
	"caulk/refs"
)

// disk is the entry of a member of a stripe.
func disk(stripe, member int) api.Entry {
	return api.Entry{Kind: api.EntryDisk, Place: api.Place{Stripe: stripe, Member: member}}
}

// fresh is the entry of fresh data.
func fresh(n int) api.Entry {
	return api.Entry{Kind: api.EntryFresh, Fresh: n}
}

// ref is n references to a member of a stripe.
func ref(stripe, member, n int) api.Ref {
	return api.Ref{Place: api.Place{Stripe: stripe, Member: member}, N: n}
}

// build is a map of tables of e entries that has these entries, one a block.
func build(e int, l ...api.Entry) api.Chart {
	c := api.Chart{Blocks: len(l)}
	for at := 0; at*e < len(l); at++ {
		part := make([]api.Entry, e)
		copy(part, l[at*e:])
		if slices.ContainsFunc(part, func(x api.Entry) bool { return x != api.Entry{} }) {
			c.Tables = append(c.Tables, api.Table{At: at, L: part})
		}
	}
	return c
}

// copied is the maps in memory of their own.
func copied(l []api.Chart) []api.Chart {
	next := slices.Clone(l)
	for i := range next {
		next[i].Tables = slices.Clone(next[i].Tables)
		for j, t := range next[i].Tables {
			next[i].Tables[j].L = slices.Clone(t.L)
		}
	}
	return next
}

// same tells whether the maps are the same.
func same(a, b []api.Chart) bool {
	return slices.EqualFunc(a, b, func(c, d api.Chart) bool {
		return c.Blocks == d.Blocks && slices.EqualFunc(c.Tables, d.Tables, func(s, t api.Table) bool {
			return s.At == t.At && slices.Equal(s.L, t.L)
		})
	})
}

// maps are many maps of tables of 3 entries, in which the same members and fresh data stand more than once.
func maps() []api.Chart {
	hole := api.Entry{}
	return []api.Chart{
		build(3, disk(7, 1), hole, fresh(9), hole, hole, hole, disk(2, 5), disk(7, 1)),
		build(3),
		build(3, hole, hole, hole, hole),
		build(3, fresh(4), fresh(9), disk(7, 0), fresh(4), fresh(2)),
		build(3, disk(10, 0), disk(2, 5), disk(api.MaxId-1, api.MaxPieces-1), disk(0, 0), disk(0, 254), disk(7, 1)),
		build(3, fresh(2), fresh(api.MaxFresh), fresh(1), disk(0, 2)),
	}
}

// wrong are maps that are not right, of tables of 3 entries.
func wrong() []api.Chart {
	x, hole := disk(1, 1), api.Entry{}
	return []api.Chart{
		{Blocks: -1},
		{Blocks: api.MaxBlocks + 1},
		{Blocks: 3, Tables: []api.Table{{L: []api.Entry{x, x}}}},
		{Blocks: 3, Tables: []api.Table{{L: []api.Entry{x, x, x, x}}}},
		{Blocks: 3, Tables: []api.Table{{L: []api.Entry{hole, hole, hole}}}},
		{Blocks: 2, Tables: []api.Table{{L: []api.Entry{x, x, x}}}},
		{Blocks: 3, Tables: []api.Table{{At: 1, L: []api.Entry{x, x, x}}}},
		{Blocks: 3, Tables: []api.Table{{At: -1, L: []api.Entry{x, x, x}}}},
		{Blocks: 6, Tables: []api.Table{{At: 1, L: []api.Entry{x, x, x}}, {At: 0, L: []api.Entry{x, x, x}}}},
		build(3, disk(-1, 0)),
		build(3, disk(api.MaxId, 0)),
		build(3, disk(0, api.MaxPieces)),
		build(3, fresh(0)),
		build(3, fresh(api.MaxFresh+1)),
		build(3, api.Entry{Kind: 3}),
		build(3, api.Entry{Fresh: 1}),
	}
}

func TestCount(t *testing.T) { // 15.1
	l := maps()
	for _, s := range []struct {
		l    []api.Chart
		want []api.Ref
	}{
		{nil, nil},
		{l[1:2], nil},
		{l[1:3], nil},
		{l[:1], []api.Ref{ref(2, 5, 1), ref(7, 1, 2)}},
		{l[3:4], []api.Ref{ref(7, 0, 1)}},
		{l[4:5], []api.Ref{ref(0, 0, 1), ref(0, 254, 1), ref(2, 5, 1), ref(7, 1, 1), ref(10, 0, 1), ref(api.MaxId-1, api.MaxPieces-1, 1)}},
		{[]api.Chart{l[0], l[0]}, []api.Ref{ref(2, 5, 2), ref(7, 1, 4)}},
		{l, []api.Ref{ref(0, 0, 1), ref(0, 2, 1), ref(0, 254, 1), ref(2, 5, 2), ref(7, 0, 1), ref(7, 1, 3), ref(10, 0, 1), ref(api.MaxId-1, api.MaxPieces-1, 1)}},
	} {
		was := copied(s.l)
		for range 5 { // whatever the order is in which places are kept
			if got, err := refs.Count(3, s.l...); !slices.Equal(got, s.want) || err != api.OK {
				t.Errorf("Count(%v) = %v, %d, not %v", s.l, got, err, s.want)
			}
		}
		if !same(s.l, was) {
			t.Error("what was handed in is changed")
		}
	}
}

func TestCountMany(t *testing.T) { // 15.1: a full map, at the edges of e
	for _, e := range []int{1, 64, api.MaxEntries} {
		var l []api.Entry
		var want []api.Ref
		for b := range api.MaxBlocks {
			l = append(l, disk(b%5000, b%5000%4))
		}
		for stripe := range 5000 {
			n := api.MaxBlocks / 5000
			if stripe < api.MaxBlocks%5000 {
				n++
			}
			want = append(want, ref(stripe, stripe%4, 2*n))
		}
		c := build(e, l...)
		if got, err := refs.Count(e, c, c); !slices.Equal(got, want) || err != api.OK {
			t.Errorf("of %d entries a table Count = %d references, %d", e, len(got), err)
		}
	}
}

func TestFresh(t *testing.T) { // 15.1
	l := maps()
	for _, s := range []struct {
		l    []api.Chart
		want []int
	}{
		{nil, nil},
		{l[1:3], nil},
		{l[4:5], nil},
		{l[:1], []int{9}},
		{l[3:4], []int{4, 9, 2}},
		{l[5:], []int{2, api.MaxFresh, 1}},
		{[]api.Chart{l[3], l[3]}, []int{4, 9, 2}},
		{l, []int{9, 4, 2, api.MaxFresh, 1}},
		{[]api.Chart{l[5], l[3], l[0]}, []int{2, api.MaxFresh, 1, 4, 9}},
		{[]api.Chart{l[3], l[5], l[0]}, []int{4, 9, 2, api.MaxFresh, 1}},
	} {
		was := copied(s.l)
		if got, err := refs.Fresh(3, s.l...); !slices.Equal(got, s.want) || err != api.OK {
			t.Errorf("Fresh(%v) = %v, %d, not %v", s.l, got, err, s.want)
		}
		if !same(s.l, was) {
			t.Error("what was handed in is changed")
		}
	}
}

func TestWrongMaps(t *testing.T) { // 15.1: wherever the map stands that is not right
	good := maps()[0]
	for _, c := range wrong() {
		for _, l := range [][]api.Chart{{c}, {c, good}, {good, c}, {good, good, c, good}} {
			if got, err := refs.Count(3, l...); got != nil || err != api.ErrForm {
				t.Errorf("Count(%v) = %v, %d", l, got, err)
			}
			if got, err := refs.Fresh(3, l...); got != nil || err != api.ErrForm {
				t.Errorf("Fresh(%v) = %v, %d", l, got, err)
			}
		}
	}
	for _, e := range []int{-1, 0, math.MinInt, 2, 4, api.MaxEntries + 1, math.MaxInt} {
		if got, err := refs.Count(e, good); got != nil || err != api.ErrForm {
			t.Errorf("Count(%d) = %v, %d", e, got, err)
		}
		if got, err := refs.Fresh(e, good); got != nil || err != api.ErrForm {
			t.Errorf("Fresh(%d) = %v, %d", e, got, err)
		}
	}
	for _, e := range []int{0, -1, api.MaxEntries + 1} { // of an e that may not be no map is right
		if got, err := refs.Count(e, api.Chart{}); got != nil || err != api.ErrForm {
			t.Errorf("Count(%d, of no blocks) = %v, %d", e, got, err)
		}
		if got, err := refs.Fresh(e, api.Chart{}); got != nil || err != api.ErrForm {
			t.Errorf("Fresh(%d, of no blocks) = %v, %d", e, got, err)
		}
		if got, err := refs.Count(e); len(got) != 0 || err != api.OK {
			t.Errorf("Count(%d) of no maps = %v, %d", e, got, err)
		}
		if got, err := refs.Fresh(e); len(got) != 0 || err != api.OK {
			t.Errorf("Fresh(%d) of no maps = %v, %d", e, got, err)
		}
	}
}

// loose are references that are no list of references: not rising, more than once, and of any N.
func loose() []api.Ref {
	return []api.Ref{ref(5, 1, 2), ref(3, 0, 1), ref(5, 1, 3), ref(5, 0, 0), ref(-1, -1, -4), ref(3, 0, -9), ref(8, 8, 0), ref(math.MaxInt, math.MinInt, 7)}
}

func TestN(t *testing.T) { // 15.2
	for _, s := range []struct {
		l              []api.Ref
		stripe, member int
		want           int
	}{
		{nil, 0, 0, 0},
		{[]api.Ref{ref(0, 0, 4)}, 0, 0, 4},
		{[]api.Ref{ref(0, 0, 4)}, 0, 1, 0},
		{[]api.Ref{ref(0, 0, 4)}, 1, 0, 0},
		{[]api.Ref{ref(1, 0, 4), ref(1, 2, 5), ref(2, 1, 6)}, 1, 2, 5},
		{[]api.Ref{ref(1, 0, 4), ref(1, 2, 5), ref(2, 1, 6)}, 2, 1, 6},
		{loose(), 5, 1, 5},
		{loose(), 5, 0, 0},
		{loose(), 3, 0, -8},
		{loose(), -1, -1, -4},
		{loose(), 8, 8, 0},
		{loose(), math.MaxInt, math.MinInt, 7},
		{loose(), 0, 5, 0},
	} {
		if got := refs.N(s.l, api.Place{Stripe: s.stripe, Member: s.member}); got != s.want {
			t.Errorf("N(%v, %d %d) = %d, not %d", s.l, s.stripe, s.member, got, s.want)
		}
	}
}

func TestLive(t *testing.T) { // 15.2: how many references, whatever their N
	for _, s := range []struct {
		l            []api.Ref
		stripe, want int
	}{
		{nil, 0, 0},
		{[]api.Ref{ref(0, 0, 4)}, 0, 1},
		{[]api.Ref{ref(0, 0, 4)}, 1, 0},
		{[]api.Ref{ref(1, 0, 4), ref(1, 2, 5), ref(2, 1, 6)}, 1, 2},
		{[]api.Ref{ref(1, 0, 4), ref(1, 2, 5), ref(2, 1, 6)}, 2, 1},
		{loose(), 5, 3},
		{loose(), 3, 2},
		{loose(), 8, 1},
		{loose(), -1, 1},
		{loose(), math.MaxInt, 1},
		{loose(), 0, 0},
	} {
		if got := refs.Live(s.l, s.stripe); got != s.want {
			t.Errorf("Live(%v, %d) = %d, not %d", s.l, s.stripe, got, s.want)
		}
	}
}

func TestDead(t *testing.T) { // 15.2
	for _, s := range []struct {
		l             []api.Ref
		stripes, want []int
	}{
		{nil, nil, nil},
		{nil, []int{3, 1, 2}, []int{3, 1, 2}},
		{loose(), nil, nil},
		{loose(), []int{5, 3, 8, -1, math.MaxInt}, nil},
		{loose(), []int{9, 5, 0, 3, 7, 8, 1}, []int{9, 0, 7, 1}},
		{loose(), []int{4, 4, 5, 5, 4}, []int{4, 4, 4}},
		{loose(), []int{math.MinInt, -2, -1}, []int{math.MinInt, -2}},
		{[]api.Ref{ref(0, 0, 0)}, []int{0, 1}, []int{1}},
	} {
		was := slices.Clone(s.stripes)
		if got := refs.Dead(s.l, s.stripes...); !slices.Equal(got, s.want) {
			t.Errorf("Dead(%v, %v) = %v, not %v", s.l, was, got, s.want)
		}
		if !slices.Equal(s.stripes, was) {
			t.Errorf("of %v what was handed in is changed", was)
		}
	}
}

func TestSparse(t *testing.T) { // 15.2
	for _, s := range []struct {
		l    []api.Ref
		k    int
		want []int
	}{
		{nil, 5, nil},
		{loose(), math.MinInt, nil},
		{loose(), -1, nil},
		{loose(), 0, nil},
		{loose(), 1, nil},
		{loose(), 2, []int{-1, 8, math.MaxInt}},
		{loose(), 3, []int{-1, 3, 8, math.MaxInt}},
		{loose(), 4, []int{-1, 3, 5, 8, math.MaxInt}},
		{loose(), math.MaxInt, []int{-1, 3, 5, 8, math.MaxInt}},
		{[]api.Ref{ref(1, 0, 9), ref(1, 1, 9), ref(2, 0, 1), ref(4, 0, 1), ref(4, 1, 1), ref(4, 2, 1)}, 3, []int{1, 2}},
	} {
		for range 5 { // whatever the order is in which stripes are kept
			if got := refs.Sparse(s.l, s.k); !slices.Equal(got, s.want) {
				t.Errorf("Sparse(%v, %d) = %v, not %v", s.l, s.k, got, s.want)
			}
		}
	}
	l := loose()
	refs.N(l, api.Place{})
	refs.Live(l, 3)
	refs.Dead(l, 3)
	refs.Sparse(l, 3)
	if !slices.Equal(l, loose()) {
		t.Error("what was handed in is changed")
	}
}

func TestNewMemory(t *testing.T) { // 15.3
	l := maps()
	counts, _ := refs.Count(3, l...)
	numbers, _ := refs.Fresh(3, l...)
	counts[0], numbers[0] = ref(9, 9, 9), 77
	if again, _ := refs.Count(3, l...); again[0] != ref(0, 0, 1) || !same(l, maps()) {
		t.Error("Count shares what it answered")
	}
	if again, _ := refs.Fresh(3, l...); again[0] != 9 || !same(l, maps()) {
		t.Error("Fresh shares what it answered")
	}
	stripes := []int{1, 2, 5, 4}
	dead := refs.Dead(loose(), stripes...)
	for i := range dead {
		dead[i] = 66
	}
	if !slices.Equal(stripes, []int{1, 2, 5, 4}) {
		t.Error("Dead shares what was handed in")
	}
	none := refs.Dead(nil, stripes...)
	none[0] = 66
	if stripes[0] != 1 {
		t.Error("Dead of no references shares what was handed in")
	}
}

// total is how often all references refer, together.
func total(l []api.Ref) int {
	n := 0
	for _, r := range l {
		n += r.N
	}
	return n
}

// isList tells whether l is a list of references.
func isList(l []api.Ref) bool {
	for i, r := range l {
		if r.N < 1 {
			return false
		}
		if i == 0 {
			continue
		}
		p := l[i-1].Place
		if p.Stripe > r.Place.Stripe || p.Stripe == r.Place.Stripe && p.Member >= r.Place.Member {
			return false
		}
	}
	return true
}

func TestAllTold(t *testing.T) { // 15.4: against entries that are counted plainly
	seed := uint32(1)
	next := func(n int) int {
		seed = seed*1664525 + 1013904223
		return int(seed>>16) % n
	}
	for range 300 {
		e := []int{1, 2, 5, 64}[next(4)]
		var l []api.Chart
		were := 0
		var before []api.Ref
		for range next(6) {
			var entries []api.Entry
			for range next(40) {
				entries = append(entries, []api.Entry{{}, fresh(1 + next(5)), disk(next(4), next(3)), disk(next(9), next(2))}[next(4)])
			}
			c := build(e, entries...)
			l = append(l, c)
			own, err := refs.Count(e, c)
			all, err2 := refs.Count(e, l...)
			if err != api.OK || err2 != api.OK || !isList(own) || !isList(all) {
				t.Fatalf("Count = %v, %d; %v, %d", own, err, all, err2)
			}
			were += plain(entries)
			if total(all) != were || total(own) != plain(entries) {
				t.Fatalf("of %d entries of the disk there are %d told", were, total(all))
			}
			adds(t, before, own, all)
			before = all
		}
	}
}

// plain is how many of the entries are of the disk.
func plain(l []api.Entry) int {
	n := 0
	for _, x := range l {
		if x.Kind == api.EntryDisk {
			n++
		}
	}
	return n
}

// adds fails, if all are not those before, and a map's own.
func adds(t *testing.T, before, own, all []api.Ref) {
	t.Helper()
	for _, r := range all {
		if r.N != refs.N(before, r.Place)+refs.N(own, r.Place) {
			t.Fatalf("%v is not those of %v and %v", r, before, own)
		}
	}
	for stripe := range 9 {
		live := 0
		for _, r := range all {
			if r.Place.Stripe == stripe {
				live++
			}
		}
		if refs.Live(all, stripe) != live {
			t.Fatalf("Live(%v, %d) is not %d", all, stripe, live)
		}
		if dead := refs.Dead(all, stripe); (len(dead) == 1) != (live == 0) {
			t.Fatalf("Dead(%v, %d) = %v", all, stripe, dead)
		}
		for k := range 5 {
			if slices.Contains(refs.Sparse(all, k), stripe) != (live > 0 && live < k) {
				t.Fatalf("Sparse(%v, %d) is wrong of %d", all, k, stripe)
			}
		}
	}
}

func TestChartsOfChart(t *testing.T) { // 15.4: maps as chart makes them
	c, _ := chart.New(200)
	for b := range 200 {
		c, _ = chart.Set(64, c, b, []api.Entry{{}, disk(b%3, 1), fresh(1 + b%7)}[b%3])
	}
	l, err := refs.Count(64, c)
	if !slices.Equal(l, []api.Ref{ref(1, 1, 67)}) || err != api.OK {
		t.Errorf("Count = %v, %d", l, err)
	}
	if got, err := refs.Fresh(64, c); !slices.Equal(got, []int{3, 6, 2, 5, 1, 4, 7}) || err != api.OK {
		t.Errorf("Fresh = %v, %d", got, err)
	}
}
