package state_test

import (
	"math"
	"reflect"
	"slices"
	"strings"
	"testing"

	"caulk/api"
	"caulk/geom"
	"caulk/state"
)

// disk is the entry of a member of a stripe.
func disk(stripe, member int) api.Entry {
	return api.Entry{Kind: api.EntryDisk, Place: api.Place{Stripe: stripe, Member: member}}
}

// fresh is the entry of fresh data.
func fresh(n int) api.Entry {
	return api.Entry{Kind: api.EntryFresh, Fresh: n}
}

// build is the map of so many blocks, of tables of e entries, in which full has the entries that are no holes.
func build(e, blocks int, full map[int]api.Entry) api.Chart {
	c := api.Chart{Blocks: blocks}
	for b := range blocks {
		x, there := full[b]
		if !there {
			continue
		}
		n := len(c.Tables)
		if n == 0 || c.Tables[n-1].At != b/e {
			c.Tables = append(c.Tables, api.Table{At: b / e, L: make([]api.Entry, e)})
			n++
		}
		c.Tables[n-1].L[b%e] = x
	}
	return c
}

// small is the geometry of the state of sample: 64 entries a table.
func small() api.Geom {
	return api.Geom{Shift: 0, K: 2, M: 1, Clusters: 20}
}

// sample is a settled state: of one stripe the snapshot alone has data.
func sample() api.State {
	return api.State{
		Now: build(64, 200, map[int]api.Entry{0: disk(3, 0), 5: disk(3, 1), 70: disk(9, 1), 199: disk(3, 0)}),
		Snaps: []api.Snap{
			{Id: 0, Name: "a", Chart: build(64, 10, map[int]api.Entry{9: disk(7, 1)})},
			{Id: 4, Name: strings.Repeat("n", api.MaxName), Chart: api.Chart{}},
			{Id: 5, Name: "\x00", Chart: build(64, 200, map[int]api.Entry{5: disk(3, 1), 130: disk(9, 0)})},
		},
		Stripes: []api.Stripe{
			{Id: 3, At: []int{2, 3, 4}, Sums: []uint32{1, 2, 3}},
			{Id: 7, At: []int{19, 5, 11}, Sums: []uint32{0xffffffff, 0, 0x01020304}},
			{Id: 9, At: []int{12, 13, 6}, Sums: []uint32{7, 7, 7}},
		},
		NextStripe: 10,
		NextSnap:   6,
	}
}

// same tells whether two states are the same; a list of none may be none at all.
func same(a, b api.State) bool {
	return reflect.DeepEqual(plain(a), plain(b))
}

// blank tells whether nothing is in s.
func blank(s api.State) bool {
	return same(s, api.State{})
}

// plain is s in memory of its own, lists of none as none at all.
func plain(s api.State) api.State {
	s.Now = plainChart(s.Now)
	s.Snaps = append([]api.Snap(nil), s.Snaps...)
	for i := range s.Snaps {
		s.Snaps[i].Chart = plainChart(s.Snaps[i].Chart)
	}
	s.Stripes = append([]api.Stripe(nil), s.Stripes...)
	for i, x := range s.Stripes {
		s.Stripes[i] = plainStripe(x)
	}
	return s
}

// plainChart is c in memory of its own, lists of none as none at all.
func plainChart(c api.Chart) api.Chart {
	c.Tables = append([]api.Table(nil), c.Tables...)
	for i, t := range c.Tables {
		c.Tables[i].L = append([]api.Entry(nil), t.L...)
	}
	return c
}

// plainStripe is x in memory of its own, lists of none as none at all.
func plainStripe(x api.Stripe) api.Stripe {
	return api.Stripe{Id: x.Id, At: append([]int(nil), x.At...), Sums: append([]uint32(nil), x.Sums...)}
}

// spoil changes all that s can reach.
func spoil(s api.State) {
	spoilChart(s.Now)
	for i := range s.Snaps {
		spoilChart(s.Snaps[i].Chart)
		s.Snaps[i] = api.Snap{Id: 66}
	}
	for i := range s.Stripes {
		spoilStripe(s.Stripes[i])
		s.Stripes[i] = api.Stripe{Id: 66}
	}
}

// spoilChart changes all that c can reach.
func spoilChart(c api.Chart) {
	for i := range c.Tables {
		for j := range c.Tables[i].L {
			c.Tables[i].L[j] = disk(666, 6)
		}
		c.Tables[i] = api.Table{At: 66}
	}
}

// spoilStripe changes all that x can reach.
func spoilStripe(x api.Stripe) {
	for i := range x.At {
		x.At[i] = 66
	}
	for i := range x.Sums {
		x.Sums[i] = 66
	}
}

// change is something that befalls a state and its geometry, with a name.
type change struct {
	say string
	do  func(g *api.Geom, s *api.State)
}

// harmless are changes after which sample is right and settled as it was.
func harmless() []change {
	return []change{
		{"nothing", func(g *api.Geom, s *api.State) {}},
		{"the greatest next numbers", func(g *api.Geom, s *api.State) { s.NextStripe, s.NextSnap = api.MaxId-1, api.MaxId-1 }},
		{"the greatest Ids", func(g *api.Geom, s *api.State) {
			s.NextSnap = api.MaxId - 1
			s.Snaps[2].Id = api.MaxId - 2
			s.NextStripe = api.MaxId - 1
			s.Stripes[2].Id = api.MaxId - 2
			s.Now.Tables[1].L[6] = disk(api.MaxId-2, 0)
			s.Snaps[2].Chart.Tables[1].L[2] = disk(api.MaxId-2, 0)
		}},
		{"Ids that follow one another", func(g *api.Geom, s *api.State) {
			s.Snaps[1].Id, s.Snaps[2].Id = 1, 2
		}},
		{"names of other bytes", func(g *api.Geom, s *api.State) { s.Snaps[0].Name, s.Snaps[2].Name = "\xff\xfe", "A" }},
		{"no snapshots, and no more than their stripe", func(g *api.Geom, s *api.State) {
			s.Snaps = nil
			s.Stripes = slices.Delete(s.Stripes, 1, 2)
		}},
		{"no snapshots any more, but their stripe", func(g *api.Geom, s *api.State) {
			s.Snaps = nil
			s.Now.Tables[0].L[1] = disk(7, 0)
		}},
		{"the snapshot alone has all", func(g *api.Geom, s *api.State) {
			s.Snaps[1].Chart = s.Now
			s.Now = api.Chart{}
		}},
		{"nothing at all", func(g *api.Geom, s *api.State) { *s = api.State{} }},
		{"holes alone", func(g *api.Geom, s *api.State) { *s = api.State{Now: api.Chart{Blocks: api.MaxBlocks}} }},
		{"more clusters than are used", func(g *api.Geom, s *api.State) { g.Clusters = api.MaxClusters }},
		{"one data more, and no parity", func(g *api.Geom, s *api.State) { g.K, g.M = 3, 0 }},
		{"the most snapshots", func(g *api.Geom, s *api.State) { many(s, api.MaxSnaps) }},
	}
}

// many gives s so many snapshots.
func many(s *api.State, n int) {
	for i := len(s.Snaps); i < n; i++ {
		s.Snaps = append(s.Snaps, api.Snap{Id: 100 + i, Name: "no. " + string([]byte{byte(i)})})
	}
	s.NextSnap = 1000
}

// unsettling are changes after which sample is right, but not settled.
func unsettling() []change {
	return []change{
		{"something fresh in the map of now", func(g *api.Geom, s *api.State) { s.Now.Tables[0].L[1] = fresh(1) }},
		{"something fresh at its end", func(g *api.Geom, s *api.State) { s.Now.Tables[2].L[6] = fresh(api.MaxFresh) }},
		{"something fresh in a snapshot", func(g *api.Geom, s *api.State) { s.Snaps[2].Chart.Tables[1].L[60] = fresh(5) }},
		{"something fresh alone", func(g *api.Geom, s *api.State) {
			*s = api.State{Now: build(64, 3, map[int]api.Entry{2: fresh(3)})}
		}},
		{"a stripe that nothing refers to", func(g *api.Geom, s *api.State) {
			s.Stripes = append(s.Stripes, api.Stripe{Id: 10, At: []int{15, 16, 17}, Sums: []uint32{0, 0, 0}})
			s.NextStripe = 11
		}},
		{"a first stripe that nothing refers to", func(g *api.Geom, s *api.State) {
			s.Stripes = slices.Insert(s.Stripes, 0, api.Stripe{Id: 0, At: []int{15, 16, 17}, Sums: []uint32{0, 0, 0}})
		}},
		{"a stripe that nothing refers to any more", func(g *api.Geom, s *api.State) { s.Snaps[0].Chart = api.Chart{Blocks: 10} }},
		{"a stripe that a fresh one replaces", func(g *api.Geom, s *api.State) { s.Snaps[0].Chart.Tables[0].L[9] = fresh(2) }},
		{"stripes alone", func(g *api.Geom, s *api.State) { s.Now, s.Snaps = api.Chart{}, nil }},
	}
}

// wrongStripes are changes by which the stripes of sample, or what refers to them, are not right.
func wrongStripes() []change {
	return []change{
		{"a next stripe below 0", func(g *api.Geom, s *api.State) { s.NextStripe = -1 }},
		{"a next stripe too great", func(g *api.Geom, s *api.State) { s.NextStripe = api.MaxId }},
		{"a next stripe far too great", func(g *api.Geom, s *api.State) { s.NextStripe = math.MaxInt }},
		{"a next stripe below 0, of no stripes", func(g *api.Geom, s *api.State) { *s = api.State{NextStripe: -1} }},
		{"a next stripe too great, of no stripes", func(g *api.Geom, s *api.State) { *s = api.State{NextStripe: api.MaxId} }},
		{"a next stripe that there is", func(g *api.Geom, s *api.State) { s.NextStripe = 9 }},
		{"a next stripe below one that there is", func(g *api.Geom, s *api.State) { s.NextStripe = 8 }},
		{"a next stripe of 0", func(g *api.Geom, s *api.State) { s.NextStripe = 0 }},
		{"stripes that do not rise", func(g *api.Geom, s *api.State) { s.Stripes[0], s.Stripes[1] = s.Stripes[1], s.Stripes[0] }},
		{"a last stripe that does not rise", func(g *api.Geom, s *api.State) { s.Stripes[1], s.Stripes[2] = s.Stripes[2], s.Stripes[1] }},
		{"two stripes of one Id", func(g *api.Geom, s *api.State) {
			s.Stripes[1].Id = 3
			s.Snaps[0].Chart = api.Chart{}
		}},
		{"a stripe below 0", func(g *api.Geom, s *api.State) {
			s.Stripes = slices.Insert(s.Stripes, 0, api.Stripe{Id: -1, At: []int{15, 16, 17}, Sums: []uint32{0, 0, 0}})
		}},
		{"a stripe of more members", func(g *api.Geom, s *api.State) {
			s.Stripes[0].At, s.Stripes[0].Sums = []int{2, 3, 4, 15}, []uint32{1, 2, 3, 4}
		}},
		{"a stripe of fewer members", func(g *api.Geom, s *api.State) { s.Stripes[2].At, s.Stripes[2].Sums = []int{12, 13}, []uint32{1, 2} }},
		{"a stripe of fewer sums", func(g *api.Geom, s *api.State) { s.Stripes[2].Sums = []uint32{1, 2} }},
		{"a cluster of the superblocks", func(g *api.Geom, s *api.State) { s.Stripes[0].At[0] = 1 }},
		{"a cluster that there is not", func(g *api.Geom, s *api.State) { s.Stripes[1].At[0] = 20 }},
		{"a cluster twice in a stripe", func(g *api.Geom, s *api.State) { s.Stripes[1].At[0] = 5 }},
		{"a cluster of two stripes", func(g *api.Geom, s *api.State) { s.Stripes[1].At[0] = 4 }},
		{"a cluster of the first stripe and the last one", func(g *api.Geom, s *api.State) { s.Stripes[2].At[2] = 2 }},
		{"an entry of no stripe", func(g *api.Geom, s *api.State) { s.Now.Tables[0].L[1] = disk(8, 0) }},
		{"an entry of the next stripe", func(g *api.Geom, s *api.State) { s.Now.Tables[2].L[1] = disk(10, 0) }},
		{"an entry of no stripe in a snapshot", func(g *api.Geom, s *api.State) { s.Snaps[2].Chart.Tables[1].L[1] = disk(0, 0) }},
		{"an entry of parity", func(g *api.Geom, s *api.State) { s.Now.Tables[0].L[1] = disk(3, 2) }},
		{"an entry of parity in a snapshot", func(g *api.Geom, s *api.State) { s.Snaps[0].Chart.Tables[0].L[0] = disk(9, 2) }},
		{"an entry of no member", func(g *api.Geom, s *api.State) { s.Now.Tables[0].L[1] = disk(3, 254) }},
		{"a stripe that is gone", func(g *api.Geom, s *api.State) { s.Stripes = slices.Delete(s.Stripes, 1, 2) }},
		{"stripes that are gone", func(g *api.Geom, s *api.State) { s.Stripes = nil }},
	}
}

// wrongMaps are changes by which the maps of sample, its snapshots, or the geometry are not right.
func wrongMaps() []change {
	hole := api.Entry{}
	return []change{
		{"a next snapshot below 0", func(g *api.Geom, s *api.State) { s.NextSnap = -1 }},
		{"a next snapshot too great", func(g *api.Geom, s *api.State) { s.NextSnap = api.MaxId }},
		{"a next snapshot far too great", func(g *api.Geom, s *api.State) { s.NextSnap = math.MaxInt }},
		{"a next snapshot below 0, of no snapshots", func(g *api.Geom, s *api.State) { *s = api.State{NextSnap: math.MinInt} }},
		{"a next snapshot too great, of no snapshots", func(g *api.Geom, s *api.State) { *s = api.State{NextSnap: api.MaxId} }},
		{"a next snapshot that there is", func(g *api.Geom, s *api.State) { s.NextSnap = 5 }},
		{"a next snapshot of 0", func(g *api.Geom, s *api.State) { s.NextSnap = 0 }},
		{"a snapshot below 0", func(g *api.Geom, s *api.State) { s.Snaps[0].Id = -1 }},
		{"snapshots that do not rise", func(g *api.Geom, s *api.State) { s.Snaps[0].Id = 4; s.Snaps[1].Id = 0 }},
		{"a last snapshot that does not rise", func(g *api.Geom, s *api.State) { s.Snaps[2].Id = 3 }},
		{"two snapshots of one Id", func(g *api.Geom, s *api.State) { s.Snaps[2].Id = 4 }},
		{"too many snapshots", func(g *api.Geom, s *api.State) { many(s, api.MaxSnaps+1) }},
		{"no name", func(g *api.Geom, s *api.State) { s.Snaps[2].Name = "" }},
		{"a name too long", func(g *api.Geom, s *api.State) { s.Snaps[1].Name += "n" }},
		{"a name twice", func(g *api.Geom, s *api.State) { s.Snaps[2].Name = "a" }},
		{"a name twice, next to one another", func(g *api.Geom, s *api.State) { s.Snaps[1].Name = "a" }},
		{"a map of too many blocks", func(g *api.Geom, s *api.State) { s.Now.Blocks = api.MaxBlocks + 1 }},
		{"a map of fewer than no blocks", func(g *api.Geom, s *api.State) { s.Snaps[1].Chart.Blocks = -1 }},
		{"a map of fewer blocks", func(g *api.Geom, s *api.State) { s.Now.Blocks = 199 }},
		{"a snapshot's map of fewer blocks", func(g *api.Geom, s *api.State) { s.Snaps[2].Chart.Blocks = 130 }},
		{"a table of holes alone", func(g *api.Geom, s *api.State) { s.Now.Tables[1].L[6] = hole }},
		{"a table of fewer entries", func(g *api.Geom, s *api.State) { s.Now.Tables[0].L = s.Now.Tables[0].L[:63] }},
		{"a table of more entries", func(g *api.Geom, s *api.State) { s.Now.Tables[0].L = append(s.Now.Tables[0].L, hole) }},
		{"tables that do not rise", func(g *api.Geom, s *api.State) { s.Now.Tables[0].At = 1 }},
		{"an entry that is not right", func(g *api.Geom, s *api.State) { s.Now.Tables[0].L[1] = api.Entry{Fresh: 1} }},
		{"something fresh that is not right", func(g *api.Geom, s *api.State) { s.Snaps[0].Chart.Tables[0].L[1] = fresh(0) }},
		{"clusters of another size", func(g *api.Geom, s *api.State) { g.Shift = 1 }},
		{"one of data, two of parity", func(g *api.Geom, s *api.State) { g.K, g.M = 1, 2 }},
		{"more of parity", func(g *api.Geom, s *api.State) { g.M = 2 }},
		{"fewer clusters", func(g *api.Geom, s *api.State) { g.Clusters = 19 }},
		{"no clusters", func(g *api.Geom, s *api.State) { g.Clusters = 0 }},
		{"no geometry", func(g *api.Geom, s *api.State) { *g = api.Geom{} }},
		{"no geometry of nothing", func(g *api.Geom, s *api.State) { *g, *s = api.Geom{}, api.State{} }},
		{"a geometry of nothing, below 0", func(g *api.Geom, s *api.State) {
			*g, *s = api.Geom{Shift: -1, K: -5, M: -5, Clusters: -1}, api.State{}
		}},
		{"too many clusters", func(g *api.Geom, s *api.State) { g.Clusters = api.MaxClusters + 1 }},
	}
}

// wrong are changes after which sample is not right.
func wrong() []change {
	return append(wrongStripes(), wrongMaps()...)
}

// changed is what sample, and its geometry, are after a change.
func changed(x change) (api.Geom, api.State) {
	g, s := small(), sample()
	x.do(&g, &s)
	return g, s
}

func TestCheck(t *testing.T) { // 16.1
	for _, x := range append(harmless(), unsettling()...) {
		g, s := changed(x)
		was := plain(s)
		if err := state.Check(g, s); err != api.OK {
			t.Errorf("%s: Check = %d", x.say, err)
		}
		if !same(s, was) {
			t.Errorf("%s: what was handed in is changed", x.say)
		}
	}
	for _, x := range wrong() {
		g, s := changed(x)
		if err := state.Check(g, s); err != api.ErrForm {
			t.Errorf("%s: Check = %d", x.say, err)
		}
	}
}

func TestSettled(t *testing.T) { // 16.1
	for _, x := range harmless() {
		if g, s := changed(x); !state.Settled(g, s) {
			t.Errorf("%s: it is not settled", x.say)
		}
	}
	for _, x := range append(unsettling(), wrong()...) {
		if g, s := changed(x); state.Settled(g, s) {
			t.Errorf("%s: it is settled", x.say)
		}
	}
}

func TestEntriesOfAGeometry(t *testing.T) { // 16.1: tables have as many entries as a cluster has room for
	for shift := range api.MaxShift + 1 {
		g := api.Geom{Shift: shift, K: 1, M: 1, Clusters: 100}
		e := geom.Entries(g)
		s := api.State{
			Now:        build(e, api.MaxBlocks, map[int]api.Entry{0: disk(0, 0), e: disk(0, 0), api.MaxBlocks - 1: disk(0, 0)}),
			Stripes:    []api.Stripe{{Id: 0, At: []int{98, 99}, Sums: []uint32{5, 6}}},
			NextStripe: 1,
		}
		if err := state.Check(g, s); err != api.OK || !state.Settled(g, s) {
			t.Errorf("of a shift by %d Check = %d", shift, err)
		}
		blob, err := state.Bytes(g, s)
		if want := 16 + 8 + len(s.Now.Tables)*(4+8*e) + 20; len(blob) != want || err != api.OK {
			t.Errorf("of a shift by %d there are %d bytes, %d, not %d", shift, len(blob), err, want)
		}
		if got, err := state.Parse(g, blob); !same(got, s) || err != api.OK {
			t.Errorf("of a shift by %d Parse = %d", shift, err)
		}
		for other := range api.MaxShift + 1 {
			h := g
			h.Shift = other
			if err := state.Check(h, s); (err == api.OK) != (other == shift) {
				t.Errorf("of a shift by %d, looked at by %d, Check = %d", shift, other, err)
			}
		}
	}
}

func TestMostStripes(t *testing.T) { // 16.1: as many stripes as there are clusters for
	g := api.Geom{Shift: 0, K: 1, M: 0, Clusters: api.MaxClusters}
	s := api.State{NextStripe: api.MaxClusters}
	full := map[int]api.Entry{}
	for i := range api.MaxClusters - 2 {
		s.Stripes = append(s.Stripes, api.Stripe{Id: i, At: []int{api.MaxClusters - 1 - i}, Sums: []uint32{uint32(i)}})
		full[2*i] = disk(i, 0)
	}
	s.Now = build(64, 2*api.MaxClusters, full)
	if err := state.Check(g, s); err != api.OK || !state.Settled(g, s) {
		t.Errorf("Check = %d", err)
	}
	blob, err := state.Bytes(g, s)
	if got, err2 := state.Parse(g, blob); !same(got, s) || err != api.OK || err2 != api.OK {
		t.Errorf("Bytes = %d, Parse = %d", err, err2)
	}
	last := s.Stripes[len(s.Stripes)-1]
	last.At[0] = api.MaxClusters - 1
	if err := state.Check(g, s); err != api.ErrForm {
		t.Errorf("of a cluster of the first stripe and the last one Check = %d", err)
	}
	g.M = 1
	pair := api.Stripe{Id: 0, At: []int{2, 3}, Sums: []uint32{0, 0}}
	if err := state.Check(g, api.State{NextStripe: 1, Stripes: []api.Stripe{pair}, Now: build(64, 1, map[int]api.Entry{0: disk(0, 0)})}); err != api.OK {
		t.Errorf("of a single stripe Check = %d", err)
	}
}

func TestCharts(t *testing.T) { // 16.1: of any state, right or not
	for _, x := range slices.Concat(harmless(), unsettling(), wrong()) {
		_, s := changed(x)
		want := []api.Chart{s.Now}
		for _, y := range s.Snaps {
			want = append(want, y.Chart)
		}
		got := state.Charts(s)
		if len(got) != len(want) {
			t.Errorf("%s: there are %d maps, not %d", x.say, len(got), len(want))
			continue
		}
		for i := range got {
			if !reflect.DeepEqual(plainChart(got[i]), plainChart(want[i])) {
				t.Errorf("%s: the map %d is %v, not %v", x.say, i, got[i], want[i])
			}
		}
	}
}

func TestWith(t *testing.T) { // 16.1: of any state, and any maps, right or not
	x, y := build(64, 5, map[int]api.Entry{1: fresh(8)}), api.Chart{Blocks: -7, Tables: []api.Table{{At: -1}, {At: 2, L: []api.Entry{fresh(-1)}}}}
	for _, c := range slices.Concat(harmless(), unsettling(), wrong()) {
		_, s := changed(c)
		was, want := plain(s), plain(s)
		l := []api.Chart{x}
		want.Now = x
		for i := range s.Snaps {
			z := []api.Chart{y, {}, x}[i%3]
			want.Snaps[i].Chart = z
			l = append(l, z)
		}
		if got, err := state.With(s, l...); !same(got, want) || err != api.OK {
			t.Errorf("%s: With = %v, %d, not %v", c.say, got, err, want)
		}
		if got, err := state.With(s, state.Charts(s)...); !same(got, was) || err != api.OK {
			t.Errorf("%s: With its own maps = %v, %d, not %v", c.say, got, err, was)
		}
		for _, k := range [][]api.Chart{nil, l[:len(l)-1], append(slices.Clone(l), x), append(slices.Clone(l), l...)} {
			if got, err := state.With(s, k...); !blank(got) || err != api.ErrForm {
				t.Errorf("%s: With %d maps = %v, %d", c.say, len(k), got, err)
			}
		}
		if !same(s, was) {
			t.Errorf("%s: what was handed in is changed", c.say)
		}
	}
}

func TestStripe(t *testing.T) { // 16.1
	s := sample()
	for _, want := range s.Stripes {
		if got, err := state.Stripe(s, want.Id); !reflect.DeepEqual(got, want) || err != api.OK {
			t.Errorf("Stripe(%d) = %v, %d", want.Id, got, err)
		}
	}
	for _, id := range []int{-1, 0, 1, 2, 4, 8, 10, math.MaxInt, math.MinInt} {
		if got, err := state.Stripe(s, id); !reflect.DeepEqual(got, api.Stripe{}) || err != api.ErrNone {
			t.Errorf("Stripe(%d) = %v, %d", id, got, err)
		}
	}
	if got, err := state.Stripe(api.State{}, 0); !reflect.DeepEqual(got, api.Stripe{}) || err != api.ErrNone {
		t.Errorf("Stripe of none = %v, %d", got, err)
	}
	odd := api.State{Stripes: []api.Stripe{{Id: 5, At: []int{1}}, {Id: -2}, {Id: 5, At: []int{2}}, {Id: 3, Sums: []uint32{4}}}} // of any state, right or not, the first one
	for id, want := range map[int]api.Stripe{5: odd.Stripes[0], -2: odd.Stripes[1], 3: odd.Stripes[3]} {
		if got, err := state.Stripe(odd, id); !reflect.DeepEqual(plainStripe(got), plainStripe(want)) || err != api.OK {
			t.Errorf("Stripe(%d) = %v, %d, not %v", id, got, err, want)
		}
	}
}

// sharing fails, if a change of what ask answers is to be seen in what it answers then, or in s.
func sharing(t *testing.T, say string, s api.State, ask func() api.State) {
	t.Helper()
	was, want := plain(s), plain(ask())
	spoil(ask())
	if !same(s, was) || !same(ask(), want) {
		t.Errorf("%s shares what was handed in", say)
	}
	got := ask()
	for i := range got.Snaps { // no list of an answer has room that is another one's
		got.Snaps[i].Chart.Tables = append(got.Snaps[i].Chart.Tables, api.Table{At: 66})
		want.Snaps[i].Chart.Tables = append(want.Snaps[i].Chart.Tables, api.Table{At: 66})
	}
	for i := range got.Stripes {
		got.Stripes[i].At, got.Stripes[i].Sums = append(got.Stripes[i].At, 66), append(got.Stripes[i].Sums, 66)
		want.Stripes[i].At, want.Stripes[i].Sums = append(want.Stripes[i].At, 66), append(want.Stripes[i].Sums, 66)
	}
	if !same(got, want) {
		t.Errorf("%s answers lists that share memory", say)
	}
}

func TestNewMemory(t *testing.T) { // 16.3
	s := sample()
	blob, _ := state.Bytes(small(), s)
	sharing(t, "Parse", s, func() api.State { got, _ := state.Parse(small(), blob); return got })
	l := state.Charts(s)
	sharing(t, "With", s, func() api.State { got, _ := state.With(s, l...); return got })
	one := []api.Chart{l[0], l[0], l[0], l[0]}
	want := plainChart(l[0])
	got, _ := state.With(s, one...)
	spoilChart(got.Now)
	if !reflect.DeepEqual(plainChart(l[0]), want) || !reflect.DeepEqual(plainChart(got.Snaps[0].Chart), want) || !reflect.DeepEqual(plainChart(got.Snaps[2].Chart), want) {
		t.Error("With shares the maps that were handed in")
	}
	for _, c := range state.Charts(s) {
		spoilChart(c)
	}
	if !same(s, sample()) {
		t.Error("Charts shares what was handed in")
	}
	x, _ := state.Stripe(s, 7)
	spoilStripe(x)
	if !same(s, sample()) {
		t.Error("Stripe shares what was handed in")
	}
}
