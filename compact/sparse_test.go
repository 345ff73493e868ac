package compact_test

import (
	"slices"
	"testing"

	"caulk/api"
	"caulk/compact"
	"caulk/geom"
	"caulk/refs"
	"caulk/state"
)

// sample is a state of the geometry small: the stripes 3 and 5 are full, one of them by two maps; of 7 and 9 one member is referred to, of 9 by all maps, of 8 none.
func sample() api.State {
	s := api.State{
		Now: build(64, 200, map[int]api.Entry{0: disk(3, 0), 1: disk(3, 1), 63: disk(9, 1), 64: disk(5, 0), 65: fresh(7), 199: disk(9, 1)}),
		Snaps: []api.Snap{
			{Id: 0, Name: "a", Chart: build(64, 10, map[int]api.Entry{0: disk(9, 1), 9: disk(7, 0)})},
			{Id: 4, Name: "b", Chart: api.Chart{}},
			{Id: 5, Name: "c", Chart: build(64, 200, map[int]api.Entry{5: disk(5, 1), 130: disk(9, 1), 131: fresh(8)})},
		},
		NextStripe: 10,
		NextSnap:   6,
	}
	for i, id := range []int{3, 5, 7, 8, 9} {
		s.Stripes = append(s.Stripes, api.Stripe{Id: id, At: []int{2 + 3*i, 3 + 3*i, 4 + 3*i}, Sums: []uint32{1, 2, 3}})
	}
	return s
}

// finds ends a test, if other stripes are sparse, or have other members.
func finds(t *testing.T, say string, g api.Geom, s api.State, sparse []int, places []api.Place) {
	t.Helper()
	given := plain(s)
	if got, err := compact.Sparse(g, s); !slices.Equal(got, sparse) || err != api.OK {
		t.Errorf("%s: Sparse = %v, %d, not %v", say, got, err, sparse)
	}
	if got, err := compact.Places(g, s); !slices.Equal(got, places) || err != api.OK {
		t.Errorf("%s: Places = %v, %d, not %v", say, got, err, places)
	}
	if !same(s, given) {
		t.Errorf("%s: what was handed in is changed", say)
	}
}

func TestSparse(t *testing.T) { // 26.1
	g, s := small(), sample()
	finds(t, "two", g, s, []int{7, 9}, []api.Place{{Stripe: 7, Member: 0}, {Stripe: 9, Member: 1}})
	s.Now.Tables[1].L[0] = api.Entry{Kind: api.EntryFresh, Fresh: 1} // of 5 a snapshot alone has a member now
	finds(t, "three", g, s, []int{5, 7, 9}, []api.Place{{Stripe: 5, Member: 1}, {Stripe: 7, Member: 0}, {Stripe: 9, Member: 1}})
	s.Now.Tables[1].L[2], s.Now.Tables[1].L[1] = disk(8, 1), disk(7, 1) // of 8 one is there; 7 is full, by two maps
	finds(t, "three others", g, s, []int{5, 8, 9}, []api.Place{{Stripe: 5, Member: 1}, {Stripe: 8, Member: 1}, {Stripe: 9, Member: 1}})
	s.Snaps = nil
	finds(t, "without snapshots", g, s, []int{7, 8, 9}, []api.Place{{Stripe: 7, Member: 1}, {Stripe: 8, Member: 1}, {Stripe: 9, Member: 1}})
	s.Now = api.Chart{Blocks: 200}
	finds(t, "holes alone", g, s, nil, nil)
	finds(t, "nothing", g, api.State{}, nil, nil)
	s.Now = build(64, 200, map[int]api.Entry{9: fresh(1), 190: fresh(2)})
	finds(t, "fresh data alone", g, s, nil, nil)
}

func TestSparseByK(t *testing.T) { // 26.1: fewer than K, in the order of their stripes and members, wherever they stand in maps
	for k := 1; k <= 5; k++ {
		g := api.Geom{K: k, M: 1, Clusters: 60}
		s := api.State{NextStripe: 6}
		full, b := map[int]api.Entry{}, 100
		var sparse []int
		var places []api.Place
		for id := range 6 {
			x := api.Stripe{Id: id, Sums: make([]uint32, k+1)}
			for i := range k + 1 {
				x.At = append(x.At, 2+id*(k+1)+i)
			}
			s.Stripes = append(s.Stripes, x)
			n := min(id, k) // the last n members are referred to, by falling blocks
			if n > 0 && n < k {
				sparse = append(sparse, id)
			}
			for member := k - n; member < k; member++ {
				b--
				full[b] = disk(id, member)
				if n < k {
					places = append(places, api.Place{Stripe: id, Member: member})
				}
			}
		}
		s.Now = build(64, 200, full)
		finds(t, "by K", g, s, sparse, places)
	}
}

func TestSparseByChance(t *testing.T) { // 26.1: the same, told by how many of a stripe are live
	for seed := range 200 {
		next := draw(uint64(seed))
		g := api.Geom{K: 1 + next(4), M: next(2), Clusters: 100}
		s := api.State{NextStripe: 12}
		for id := range 12 {
			x := api.Stripe{Id: id, Sums: make([]uint32, g.K+g.M)}
			for i := range g.K + g.M {
				x.At = append(x.At, 2+id*(g.K+g.M)+i)
			}
			s.Stripes = append(s.Stripes, x)
		}
		full := map[int]api.Entry{}
		for range next(50) {
			full[next(300)] = disk(next(12), next(g.K))
		}
		s.Now = build(64, 300, full)
		list, err := refs.Count(geom.Entries(g), state.Charts(s)...)
		is(t, "Count", err, api.OK)
		var sparse []int
		var places []api.Place
		for id := range 12 {
			n := refs.Live(list, id)
			if n == 0 || n >= g.K {
				continue
			}
			sparse = append(sparse, id)
			for member := range g.K {
				if p := (api.Place{Stripe: id, Member: member}); refs.N(list, p) > 0 {
					places = append(places, p)
				}
			}
		}
		finds(t, "by chance", g, s, sparse, places)
	}
}

func TestSparseWrong(t *testing.T) { // 26.1: ErrForm
	wrong := map[string]func(g *api.Geom, s *api.State){
		"no geometry":          func(g *api.Geom, s *api.State) { *g = api.Geom{} },
		"greater clusters":     func(g *api.Geom, s *api.State) { g.Shift = 1 },
		"more parity":          func(g *api.Geom, s *api.State) { g.M = 2 },
		"fewer data":           func(g *api.Geom, s *api.State) { g.K, g.M = 1, 2 },
		"fewer clusters":       func(g *api.Geom, s *api.State) { g.Clusters = 16 },
		"too many blocks":      func(g *api.Geom, s *api.State) { s.Now.Blocks = api.MaxBlocks + 1 },
		"no such stripe":       func(g *api.Geom, s *api.State) { s.Now.Tables[0].L[0].Place.Stripe = 4 },
		"no such member":       func(g *api.Geom, s *api.State) { s.Now.Tables[0].L[0].Place.Member = 2 },
		"no such kind":         func(g *api.Geom, s *api.State) { s.Snaps[2].Chart.Tables[0].L[0].Kind = 3 },
		"a table of holes":     func(g *api.Geom, s *api.State) { clear(s.Now.Tables[0].L) },
		"snapshots that fall":  func(g *api.Geom, s *api.State) { slices.Reverse(s.Snaps) },
		"a name twice":         func(g *api.Geom, s *api.State) { s.Snaps[2].Name = "a" },
		"a next snapshot less": func(g *api.Geom, s *api.State) { s.NextSnap = 5 },
		"a next stripe less":   func(g *api.Geom, s *api.State) { s.NextStripe = 9 },
		"a cluster twice":      func(g *api.Geom, s *api.State) { s.Stripes[0].At[0] = 5 },
		"a sum less":           func(g *api.Geom, s *api.State) { s.Stripes[3].Sums = nil },
	}
	for say, change := range wrong {
		g, s := small(), sample()
		change(&g, &s)
		if l, err := compact.Sparse(g, s); len(l) > 0 || err != api.ErrForm {
			t.Errorf("%s: Sparse = %v, %d", say, l, err)
		}
		if l, err := compact.Places(g, s); len(l) > 0 || err != api.ErrForm {
			t.Errorf("%s: Places = %v, %d", say, l, err)
		}
	}
}

func TestSparseMemory(t *testing.T) { // 26.3
	s := sample()
	l, err := compact.Sparse(small(), s)
	is(t, "Sparse", err, api.OK)
	p, err := compact.Places(small(), s)
	is(t, "Places", err, api.OK)
	clear(l)
	clear(p)
	finds(t, "once more", small(), s, []int{7, 9}, []api.Place{{Stripe: 7, Member: 0}, {Stripe: 9, Member: 1}})
	if !same(s, sample()) {
		t.Error("what was handed in is changed")
	}
}
