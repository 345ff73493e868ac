package rebuild_test

import (
	"math"
	"slices"
	"strconv"
	"testing"

	"caulk/api"
	"caulk/chart"
	"caulk/geom"
	"caulk/rebuild"
	"caulk/state"
)

// sample is a state of the geometry small, 64 entries a table.
func sample() api.State {
	return api.State{
		Now: build(64, 200, map[int]api.Entry{0: disk(3, 0), 5: disk(3, 1), 63: fresh(7), 64: disk(9, 0), 70: disk(9, 1), 198: fresh(8), 199: disk(3, 0)}),
		Snaps: []api.Snap{
			{Id: 0, Name: "a", Chart: build(64, 10, map[int]api.Entry{0: disk(3, 0), 9: disk(7, 1)})},
			{Id: 4, Name: "b", Chart: api.Chart{}},
			{Id: 5, Name: "c", Chart: build(64, 200, map[int]api.Entry{5: disk(3, 1), 130: disk(9, 0)})},
		},
		Stripes: []api.Stripe{
			{Id: 3, At: []int{2, 3, 4}, Sums: []uint32{1, 2, 3}},
			{Id: 7, At: []int{19, 5, 11}, Sums: []uint32{4, 5, 6}},
			{Id: 8, At: []int{20, 21, 22}, Sums: []uint32{7, 8, 9}},
			{Id: 9, At: []int{12, 13, 6}, Sums: []uint32{7, 7, 7}},
		},
		NextStripe: 10,
		NextSnap:   6,
	}
}

// left is the blocks that are no holes, of the maps in order.
func left(t *testing.T, g api.Geom, s api.State) [][]int {
	t.Helper()
	var l [][]int
	for _, c := range state.Charts(s) {
		blocks, _, err := chart.All(geom.Entries(g), c)
		is(t, "All", err, api.OK)
		l = append(l, blocks)
	}
	return l
}

// without is s without l, as it was told block by block.
func without(t *testing.T, g api.Geom, s api.State, l []api.Lost) api.State {
	t.Helper()
	ids := []int{-1}
	for _, x := range s.Snaps {
		ids = append(ids, x.Id)
	}
	charts := state.Charts(s)
	for i, id := range ids {
		for b := range charts[i].Blocks {
			isLost := func(x api.Lost) bool { return x.Chart == id && x.Blocks.From <= b && b < x.Blocks.To }
			if !slices.ContainsFunc(l, isLost) {
				continue
			}
			c, err := chart.Set(geom.Entries(g), charts[i], b, api.Entry{})
			is(t, "Set", err, api.OK)
			charts[i] = c
		}
	}
	next, err := state.With(s, charts...)
	is(t, "With", err, api.OK)
	return next
}

func TestWithout(t *testing.T) { // 25.1
	now, a, b, c := []int{0, 5, 63, 64, 70, 198, 199}, []int{0, 9}, []int(nil), []int{5, 130}
	for _, x := range []struct {
		say  string
		l    []api.Lost
		want [][]int
	}{
		{"none", nil, [][]int{now, a, b, c}},
		{"one", lost(-1, 5, 6), [][]int{{0, 63, 64, 70, 198, 199}, a, b, c}},
		{"the first one", lost(-1, 0, 1), [][]int{now[1:], a, b, c}},
		{"the last one", lost(-1, 199, 200), [][]int{now[:6], a, b, c}},
		{"up to one", lost(-1, 0, 5), [][]int{now[1:], a, b, c}},
		{"behind one", lost(-1, 6, 63), [][]int{now, a, b, c}},
		{"of two tables", lost(-1, 63, 65), [][]int{{0, 5, 70, 198, 199}, a, b, c}},
		{"a whole table", lost(-1, 64, 128), [][]int{{0, 5, 63, 198, 199}, a, b, c}},
		{"all that a table has", lost(-1, 70, 71, 64, 65), [][]int{{0, 5, 63, 198, 199}, a, b, c}},
		{"fresh ones", lost(-1, 198, 199, 10, 64), [][]int{{0, 5, 64, 70, 199}, a, b, c}},
		{"in one another", lost(-1, 0, 100, 5, 6, 50, 150, 63, 64), [][]int{{198, 199}, a, b, c}},
		{"all", lost(-1, 0, 200), [][]int{nil, a, b, c}},
		{"a snapshot's", lost(0, 9, 10), [][]int{now, {0}, b, c}},
		{"another one's", lost(5, 5, 130), [][]int{now, a, b, {130}}},
		{"of all maps", slices.Concat(lost(5, 0, 200), lost(-1, 64, 200), lost(0, 0, 1), lost(-1, 1, 2)), [][]int{{0, 5, 63}, {9}, b, nil}},
		{"more than there are", slices.Concat(lost(0, 9, 200), lost(4, 0, 200), lost(-1, 199, api.MaxBlocks)), [][]int{now[:6], {0}, b, c}},
		{"none of those that there are", slices.Concat(lost(0, 10, 200), lost(-1, 200, 201), lost(5, 300, 400)), [][]int{now, a, b, c}},
		{"below the first one", lost(-1, -7, 1, -9, -3, -3, 0), [][]int{now[1:], a, b, c}},
		{"empty", lost(-1, 5, 5, 0, 0, 200, 200), [][]int{now, a, b, c}},
		{"turned round", lost(-1, 6, 5, 200, 0, 5, -1), [][]int{now, a, b, c}},
		{"no such map", slices.Concat(lost(1, 0, 200), lost(-2, 0, 200), lost(6, 0, 200), lost(math.MinInt, 0, 200), lost(math.MaxInt, 0, 200)), [][]int{now, a, b, c}},
		{"far away", lost(-1, math.MinInt, math.MinInt, math.MaxInt, math.MaxInt, math.MaxInt, math.MinInt), [][]int{now, a, b, c}},
		{"all that there may be", slices.Concat(lost(5, math.MinInt, math.MaxInt), lost(-1, math.MinInt, 64, 65, math.MaxInt)), [][]int{{64}, a, b, nil}},
	} {
		given, l := sample(), slices.Clone(x.l)
		got, err := rebuild.Without(small(), given, l)
		if err != api.OK || !same(left(t, small(), got), x.want) {
			t.Errorf("%s: Without = %v, %d", x.say, got, err)
		}
		if want := without(t, small(), sample(), x.l); !same(got, want) {
			t.Errorf("%s: Without = %v, not %v", x.say, got, want)
		}
		is(t, x.say, state.Check(small(), got), api.OK)
		if !same(given, sample()) || !slices.Equal(l, x.l) {
			t.Errorf("%s: what was handed in is changed", x.say)
		}
	}
	got, err := rebuild.Without(small(), api.State{}, lost(-1, 0, 7))
	if !same(got, api.State{}) || err != api.OK {
		t.Errorf("of nothing Without = %v, %d", got, err)
	}
}

func TestWithoutByChance(t *testing.T) { // 25.1: the same, block by block
	for seed := range 200 {
		next := draw(uint64(seed))
		g := api.Geom{Shift: next(2), K: 1 + next(3), M: next(3), Clusters: 30}
		s := api.State{NextSnap: 9, NextStripe: 2, Stripes: []api.Stripe{{Id: 1, Sums: make([]uint32, g.K+g.M)}}}
		for i := range g.K + g.M {
			s.Stripes[0].At = append(s.Stripes[0].At, 2+i)
		}
		some := func() api.Chart {
			blocks, full := next(300), map[int]api.Entry{}
			for range next(60) {
				full[next(300)] = []api.Entry{disk(1, next(g.K)), fresh(1 + next(50))}[next(2)]
			}
			return build(geom.Entries(g), blocks, full)
		}
		s.Now = some()
		for i := range next(4) {
			s.Snaps = append(s.Snaps, api.Snap{Id: i * 2, Name: strconv.Itoa(i), Chart: some()})
		}
		var l []api.Lost
		for range next(12) {
			from := next(330) - 20
			l = append(l, lost(next(8)-1, from, from+next(60)-10)...)
		}
		got, err := rebuild.Without(g, s, l)
		if want := without(t, g, s, l); err != api.OK || !same(got, want) {
			t.Fatalf("%d: Without(%v) = %v, %d, not %v", seed, l, got, err, want)
		}
	}
}

func TestWithoutWrong(t *testing.T) { // 25.1: ErrForm, whatever is lost
	wrong := map[string]func(g *api.Geom, s *api.State){
		"no geometry":           func(g *api.Geom, s *api.State) { *g = api.Geom{} },
		"greater clusters":      func(g *api.Geom, s *api.State) { g.Shift = 1 },
		"more parity":           func(g *api.Geom, s *api.State) { g.M = 2 },
		"fewer data":            func(g *api.Geom, s *api.State) { g.K, g.M = 1, 2 },
		"fewer clusters":        func(g *api.Geom, s *api.State) { g.Clusters = 20 },
		"blocks below 0":        func(g *api.Geom, s *api.State) { s.Now = api.Chart{Blocks: -1} },
		"too many blocks":       func(g *api.Geom, s *api.State) { s.Now.Blocks = api.MaxBlocks + 1 },
		"blocks behind the end": func(g *api.Geom, s *api.State) { s.Now.Blocks = 199 },
		"no such stripe":        func(g *api.Geom, s *api.State) { s.Now.Tables[0].L[0].Place.Stripe = 4 },
		"no such member":        func(g *api.Geom, s *api.State) { s.Now.Tables[0].L[0].Place.Member = 2 },
		"no such kind":          func(g *api.Geom, s *api.State) { s.Snaps[2].Chart.Tables[0].L[0].Kind = 3 },
		"a table of holes":      func(g *api.Geom, s *api.State) { clear(s.Now.Tables[0].L) },
		"a short table":         func(g *api.Geom, s *api.State) { s.Now.Tables[0].L = s.Now.Tables[0].L[:63] },
		"snapshots that fall":   func(g *api.Geom, s *api.State) { slices.Reverse(s.Snaps) },
		"a snapshot below 0":    func(g *api.Geom, s *api.State) { s.Snaps[0].Id = -1 },
		"a name twice":          func(g *api.Geom, s *api.State) { s.Snaps[2].Name = "a" },
		"a next snapshot less":  func(g *api.Geom, s *api.State) { s.NextSnap = 5 },
		"a next stripe less":    func(g *api.Geom, s *api.State) { s.NextStripe = 9 },
		"a cluster twice":       func(g *api.Geom, s *api.State) { s.Stripes[0].At[0] = 21 },
		"a sum less":            func(g *api.Geom, s *api.State) { s.Stripes[0].Sums = nil },
	}
	for say, change := range wrong {
		g, s := small(), sample()
		change(&g, &s)
		for _, l := range [][]api.Lost{nil, lost(-1, 0, 200), slices.Concat(lost(-1, 0, 200), lost(0, 0, 200), lost(5, 0, 200))} {
			if got, err := rebuild.Without(g, s, l); !same(got, api.State{}) || err != api.ErrForm {
				t.Errorf("%s: Without = %v, %d", say, got, err)
			}
		}
	}
}

func TestWithoutMuch(t *testing.T) { // 25.1: the greatest maps, and many ranges of all their blocks
	g := api.Geom{Shift: 7, K: 1, M: 0, Clusters: 4}
	full := map[int]api.Entry{}
	for b := range api.MaxBlocks {
		full[b] = disk(0, 0)
	}
	s := api.State{Stripes: []api.Stripe{{At: []int{2}, Sums: []uint32{0}}}, NextStripe: 1, NextSnap: api.MaxSnaps}
	s.Now = build(geom.Entries(g), api.MaxBlocks, full)
	var l []api.Lost
	for i := range api.MaxSnaps {
		s.Snaps = append(s.Snaps, api.Snap{Id: i, Name: "n" + strconv.Itoa(i), Chart: s.Now})
		if i > 0 { // the snapshot 0 stays as it is
			l = append(l, slices.Repeat(lost(i, 0, api.MaxBlocks), 1000)...)
		}
	}
	l = append(l, slices.Repeat(lost(-1, 1, api.MaxBlocks-1, 1, 2), 10000)...)
	got, err := rebuild.Without(g, s, l)
	is(t, "Without", err, api.OK)
	want := build(geom.Entries(g), api.MaxBlocks, map[int]api.Entry{0: disk(0, 0), api.MaxBlocks - 1: disk(0, 0)})
	if !same(got.Now, want) || !slices.EqualFunc(got.Snaps[0].Chart.Tables, s.Now.Tables, func(a, b api.Table) bool { return a.At == b.At && slices.Equal(a.L, b.L) }) {
		t.Error("other blocks are holes")
	}
	for _, x := range got.Snaps[1:] {
		if !same(x.Chart, api.Chart{Blocks: api.MaxBlocks}) {
			t.Errorf("the snapshot %d has something", x.Id)
		}
	}
}

// spoil changes all that s has.
func spoil(s api.State) {
	for _, x := range s.Snaps {
		spoilChart(x.Chart)
	}
	spoilChart(s.Now)
	for _, x := range s.Stripes {
		clear(x.At)
		clear(x.Sums)
	}
	clear(s.Snaps)
	clear(s.Stripes)
}

// spoilChart changes all that c has.
func spoilChart(c api.Chart) {
	for _, x := range c.Tables {
		clear(x.L)
	}
	clear(c.Tables)
}

func TestWithoutMemory(t *testing.T) { // 25.3
	for _, l := range [][]api.Lost{nil, lost(-1, 5, 6), lost(7, 0, 1)} {
		s := sample()
		one, err := rebuild.Without(small(), s, l)
		is(t, "Without", err, api.OK)
		two, err := rebuild.Without(small(), s, l)
		is(t, "Without", err, api.OK)
		want := plain(two)
		spoil(one)
		if !same(s, sample()) || !same(two, want) {
			t.Error("what is answered is what was handed in, or was answered")
		}
		spoil(s)
		if !same(two, want) {
			t.Error("what is handed in is kept")
		}
	}
	s := sample()
	s.Snaps[2].Chart = s.Now // maps that share memory when they are handed in do not when they are answered
	got, err := rebuild.Without(small(), s, nil)
	is(t, "Without", err, api.OK)
	spoilChart(got.Now)
	if !same(got.Snaps[2].Chart, sample().Now) {
		t.Error("two maps are one")
	}
}
