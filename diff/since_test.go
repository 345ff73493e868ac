package diff_test

import (
	"math"
	"slices"
	"strings"
	"testing"

	"caulk/api"
	"caulk/dev"
	"caulk/diff"
	"caulk/geom"
	"caulk/image"
)

// small is a geometry whose tables have 64 entries.
func small() api.Geom {
	return api.Geom{Shift: 0, K: 2, M: 1, Clusters: 300}
}

// wide is one whose tables have 256.
func wide() api.Geom {
	return api.Geom{Shift: 2, K: 3, M: 2, Clusters: 300}
}

// held is a state with two snapshots, 2 and 5, of maps of 100 blocks, and what differs is told by the names.
func held(g api.Geom) api.State {
	e := geom.Entries(g)
	l := make([]api.Entry, 100)
	l[0], l[1], l[70] = disk(0, 0), disk(0, 1), fresh(9)
	now := build(e, l...)
	first, second := slices.Clone(l[:80]), slices.Clone(l)
	first[1], first[3], second[70], second[99] = disk(0, 0), disk(0, 1), fresh(8), disk(0, 1)
	s := api.State{Now: now, NextStripe: 1, NextSnap: 6}
	s.Snaps = []api.Snap{{Id: 2, Name: "first", Chart: build(e, first...)}, {Id: 5, Name: "second", Chart: build(e, second...)}}
	s.Stripes = []api.Stripe{{}}
	for i := range g.K + g.M {
		s.Stripes[0].At = append(s.Stripes[0].At, 10+i)
		s.Stripes[0].Sums = append(s.Stripes[0].Sums, uint32(i))
	}
	return s
}

// since ends a test, if something else changed since a snapshot.
func since(t *testing.T, g api.Geom, s api.State, id int, want []api.Range) {
	t.Helper()
	if got, err := diff.Since(g, s, id); !slices.Equal(got, want) || err != api.OK {
		t.Fatalf("Since(%v, %s, %d) = %v, %d, not %v", g, brief(s), id, got, err, want)
	}
}

// notSince ends a test, if it is told what changed, or it is not for another reason.
func notSince(t *testing.T, g api.Geom, s api.State, id int, want api.Errno) {
	t.Helper()
	if got, err := diff.Since(g, s, id); got != nil || err != want {
		t.Fatalf("Since(%v, %s, %d) = %v, %d, not %d", g, brief(s), id, got, err, want)
	}
}

func TestSince(t *testing.T) { // 30.1: of maps by hand
	for _, g := range []api.Geom{small(), wide()} {
		s := held(g)
		since(t, g, s, 2, ranges(1, 2, 3, 4, 80, 100))
		since(t, g, s, 5, ranges(70, 71, 99, 100))
		for _, id := range []int{0, 1, 3, 4, 6, -1, math.MinInt, math.MaxInt, api.MaxId} {
			notSince(t, g, s, id, api.ErrNone)
		}
		s.Now = copied(s.Snaps[1].Chart)
		since(t, g, s, 5, nil)
		s.Snaps = nil
		notSince(t, g, s, 2, api.ErrNone)
	}
	notSince(t, small(), api.State{}, 0, api.ErrNone)
}

func TestSinceWrong(t *testing.T) { // 30.1: ErrForm, ahead of ErrNone
	g := small()
	for _, id := range []int{2, 5, 3, -1} {
		for _, spoil := range []func(*api.State){
			func(s *api.State) { s.Now.Blocks = -1 },
			func(s *api.State) { s.Now.Tables[0].L = s.Now.Tables[0].L[:63] },
			func(s *api.State) { s.Now.Tables[0].L[0] = disk(1, 0) },
			func(s *api.State) { s.Now.Tables[0].L[0] = disk(0, 2) },
			func(s *api.State) { s.Snaps[0].Chart.Tables[0].L[0] = disk(1, 0) },
			func(s *api.State) { s.Snaps[1].Chart.Blocks = 90 },
			func(s *api.State) { s.Snaps[1].Id = 2 },
			func(s *api.State) { s.Snaps[1].Name = "first" },
			func(s *api.State) { s.Snaps[0].Name = "" },
			func(s *api.State) { s.NextSnap = 5 },
			func(s *api.State) { s.NextStripe = 0 },
			func(s *api.State) { s.Stripes[0].At[0] = 11 },
			func(s *api.State) { s.Stripes = nil },
		} {
			s := held(g)
			spoil(&s)
			notSince(t, g, s, id, api.ErrForm)
		}
		for _, other := range []api.Geom{{}, wide(), {K: 2, M: 2, Clusters: 300}, {K: 2, M: 1, Clusters: 12}, {Shift: -1, K: 2, M: 1, Clusters: 300}, {K: 2, M: 1, Clusters: math.MaxInt}} {
			notSince(t, other, held(g), id, api.ErrForm)
		}
	}
	notSince(t, api.Geom{}, api.State{}, 0, api.ErrForm)
}

func TestSinceImage(t *testing.T) { // 30.1: of an image's states
	g := small()
	d, err := dev.New(geom.Sectors(g))
	is(t, "dev.New", err, api.OK)
	m, err := image.New(d, g, 90)
	is(t, "image.New", err, api.OK)
	is(t, "Write", m.Write(0, strings.Repeat("a", 10*512)), api.OK)
	first, err := m.Snapshot("first")
	is(t, "Snapshot", err, api.OK)
	since(t, g, m.State(), first, nil) // fresh data are shared, too
	is(t, "Flush", m.Flush(), api.OK)
	since(t, g, m.State(), first, nil) // and are of the disk in both
	is(t, "Write", m.Write(700, "b"), api.OK)
	is(t, "Write", m.Write(80*512, "c"), api.OK)
	is(t, "Zero", m.Zero(4*512, 1024), api.OK)
	is(t, "Zero", m.Zero(30*512, 1024), api.OK) // holes stay holes
	since(t, g, m.State(), first, ranges(1, 2, 4, 6, 80, 81))
	second, err := m.Snapshot("second")
	is(t, "Snapshot", err, api.OK)
	is(t, "Flush", m.Flush(), api.OK)
	since(t, g, m.State(), first, ranges(1, 2, 4, 6, 80, 81))
	since(t, g, m.State(), second, nil)
	is(t, "Resize", m.Resize(85), api.OK)
	since(t, g, m.State(), second, ranges(85, 90))
	is(t, "Revert", m.Revert(first), api.OK)
	since(t, g, m.State(), first, nil)
	since(t, g, m.State(), second, ranges(1, 2, 4, 6, 80, 81))
	is(t, "Write", m.Write(0, strings.Repeat("a", 512)), api.OK) // the same bytes, but not the same place
	since(t, g, m.State(), first, ranges(0, 1))
	is(t, "Delete", m.Delete(first), api.OK)
	notSince(t, g, m.State(), first, api.ErrNone)
}

func TestSinceNewMemory(t *testing.T) { // 30.3
	g := small()
	s := held(g)
	got, _ := diff.Since(g, s, 2)
	clear(got)
	since(t, g, s, 2, ranges(1, 2, 3, 4, 80, 100))
	if want := held(g); !same(s.Now, want.Now) || !same(s.Snaps[0].Chart, want.Snaps[0].Chart) || !same(s.Snaps[1].Chart, want.Snaps[1].Chart) {
		t.Error("what was handed in is changed")
	}
}
