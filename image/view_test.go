package image_test

import (
	"math"
	"strings"
	"testing"

	"caulk/api"
	"caulk/dev"
	"caulk/geom"
	"caulk/image"
	"caulk/load"
	"caulk/super"
)

// shows ends a test, if the views do not answer what o has, nothing of which is fresh.
func shows(t *testing.T, m *image.Image, o api.Opened) {
	t.Helper()
	want := views{
		Size: int64(o.State.Now.Blocks) * int64(geom.Size(o.Super.Geom)), Gen: o.Super.Gen, Geom: o.Super.Geom,
		State: o.State, Pages: o.Pages, Use: o.Use,
	}
	for _, x := range o.State.Snaps {
		want.Snaps = append(want.Snaps, api.Snap{Id: x.Id, Name: x.Name, Chart: api.Chart{Blocks: x.Chart.Blocks}})
	}
	if got := seen(m); !same(got, want) {
		t.Fatalf("the views answer %v, not %v", got, want)
	}
}

func TestNew(t *testing.T) { // 21.1
	for _, g := range []api.Geom{small(), wide(), {Shift: 0, K: 1, M: 0, Clusters: api.MinClusters}, {Shift: 7, K: 3, M: 2, Clusters: 256}} {
		for _, blocks := range []int{0, 1, 100, api.MaxBlocks} {
			d, m := made(t, g, blocks)
			o, err := load.Open(d)
			is(t, "load.Open", err, api.OK)
			shows(t, m, o)
			if m.Gen() != 1 || m.Geom() != g || m.Size() != int64(blocks)*512<<g.Shift || len(m.Snaps()) > 0 || m.Dirty() != 0 || m.Broken() {
				t.Errorf("of %v the views are %v", g, seen(m))
			}
			if len(m.Use()) != g.Clusters || len(m.Pages()) != 1 || m.State().Now.Blocks != blocks {
				t.Errorf("of %v the views are %v", g, seen(m))
			}
		}
	}
}

func TestNewWrong(t *testing.T) { // 21.1: load.Format's error, and nil
	fails := func(say string, d *dev.Dev, g api.Geom, blocks int, want api.Errno) {
		t.Helper()
		if m, err := image.New(d, g, blocks); m != nil || err != want {
			t.Errorf("%s: New = %v, %d, not %d", say, m, err, want)
		}
	}
	fails("no geometry", blank(t, 80), api.Geom{}, 10, api.ErrForm)
	fails("too small a device", blank(t, 79), small(), 10, api.ErrForm)
	fails("blocks below 0", blank(t, 80), small(), -1, api.ErrRange)
	fails("the least blocks", blank(t, 80), small(), math.MinInt, api.ErrRange)
	fails("too many blocks", blank(t, 80), small(), api.MaxBlocks+1, api.ErrRange)
	for n := range 4 + 3 { // two copies of a page, two slots, three flushes
		d := blank(t, 80)
		d.Fuse(n)
		fails("a device that goes down", d, small(), 10, api.ErrDown)
	}
	d := blank(t, 80)
	d.Fuse(7)
	if m, err := image.New(d, small(), 10); m == nil || err != api.OK {
		t.Errorf("New = %v, %d", m, err)
	}
}

// kept is a device with an image on it that has snapshots, all of it committed.
func kept(t *testing.T, g api.Geom) (*dev.Dev, *image.Image) {
	t.Helper()
	d, m := made(t, g, 100)
	size := int64(geom.Size(g))
	write(t, m, 3, some(1, 4*int(size)))
	snapshot(t, m, "one")
	write(t, m, 99*size, some(2, int(size)))
	is(t, "Resize", m.Resize(150), api.OK)
	snapshot(t, m, "two")
	write(t, m, 120*size-5, some(3, 10))
	flush(t, m)
	return d, m
}

func TestOpen(t *testing.T) { // 21.1
	for _, g := range []api.Geom{small(), wide()} {
		d, was := kept(t, g)
		o, err := load.Open(d)
		is(t, "load.Open", err, api.OK)
		m, err := image.Open(d)
		is(t, "Open", err, api.OK)
		shows(t, m, o)
		shows(t, was, o)
		if len(m.Snaps()) != 2 || m.Gen() != 2 || m.Size() != 150*512<<g.Shift {
			t.Errorf("the views are %v", seen(m))
		}
		reads(t, m, 3, some(1, 4*512<<g.Shift))
		readsSnap(t, m, 1, 99*512<<g.Shift, some(2, 512<<g.Shift))
		write(t, m, 0, "new")
		entries(t, m, 0, 1) // numbers begin anew
	}
}

func TestOpenMends(t *testing.T) { // 21.1
	for _, slots := range [][]int{{}, {0}, {1}} {
		d, _ := kept(t, small())
		whole, writes := d.Bytes(), d.Writes()
		for _, at := range slots {
			is(t, "Erase", d.Erase(at), api.OK)
		}
		m, err := image.Open(d)
		is(t, "Open", err, api.OK)
		if d.Bytes() != whole || d.Writes() != writes+len(slots) || len(d.Waiting()) > 0 || len(d.Bad()) > 0 {
			t.Errorf("of the slots %v: %d sectors are written, %v wait, %v are bad", slots, d.Writes()-writes, d.Waiting(), d.Bad())
		}
		if l, err := super.Find(d); len(l) != 2 || err != api.OK || l[0].Super.Gen != m.Gen() {
			t.Errorf("Find = %v, %d", l, err)
		}
	}
}

func TestOpenWrong(t *testing.T) { // 21.1: load.Open's error, load.Mend's error, and nil
	fails := func(say string, d *dev.Dev, want api.Errno) {
		t.Helper()
		if m, err := image.Open(d); m != nil || err != want {
			t.Errorf("%s: Open = %v, %d, not %d", say, m, err, want)
		}
	}
	fails("a blank device", blank(t, 80), api.ErrNone)
	d, m := kept(t, small())
	down := d.Clone()
	down.Fuse(0)
	is(t, "Flush", down.Flush(), api.ErrDown)
	fails("a device that is down", down, api.ErrDown)
	fused := d.Clone()
	fused.Fuse(0)
	fails("no flush of what was mended", fused, api.ErrDown)
	for n := range 2 {
		fused = d.Clone()
		is(t, "Erase", fused.Erase(1), api.OK)
		fused.Fuse(n)
		fails("no slot can be mended", fused, api.ErrDown)
	}
	p := m.Pages()[len(m.Pages())-1]
	is(t, "Erase", d.Erase(p.A), api.OK)
	if _, err := image.Open(d); err != api.OK {
		t.Errorf("with a copy of the root Open = %d", err)
	}
	is(t, "Erase", d.Erase(p.B), api.OK)
	fails("no root", d, api.ErrDamaged)
}

func TestNoImage(t *testing.T) { // an image that is none: it answers, and has nothing
	for _, m := range []*image.Image{nil, {}} {
		if got := seen(m); !same(got, views{Broken: true}) {
			t.Errorf("the views answer %v", got)
		}
		broken(t, "none", m)
	}
}

func TestSize(t *testing.T) { // 21.1: of the map of now
	_, m := kept(t, wide())
	for _, n := range []int{0, 1, 77, api.MaxBlocks} {
		is(t, "Resize", m.Resize(n), api.OK)
		if got := m.Size(); got != int64(n)*1024 {
			t.Errorf("Size = %d", got)
		}
	}
	if l := m.Snaps(); len(l) != 2 || l[0].Chart.Blocks != 100 || l[1].Chart.Blocks != 150 || l[0].Chart.Tables != nil || l[1].Chart.Tables != nil {
		t.Errorf("Snaps = %v", l)
	}
}

func TestDirty(t *testing.T) { // 21.1: as many as fresh data, not as blocks that have them
	_, m := made(t, small(), 100)
	write(t, m, 0, some(1, 3*512))
	if m.Dirty() != 3 {
		t.Errorf("Dirty = %d", m.Dirty())
	}
	snapshot(t, m, "one")
	write(t, m, 512, strings.Repeat("x", 512))
	if m.Dirty() != 4 {
		t.Errorf("Dirty = %d", m.Dirty())
	}
	flush(t, m)
	if m.Dirty() != 0 {
		t.Errorf("Dirty = %d", m.Dirty())
	}
}
