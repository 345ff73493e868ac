package image_test

import (
	"fmt"
	"testing"

	"caulk/api"
	"caulk/chart"
	"caulk/dev"
	"caulk/geom"
	"caulk/image"
	"caulk/load"
	"caulk/plan"
	"caulk/pool"
)

// poolOf is a pool of all data that are fresh in m, under their numbers.
func poolOf(t *testing.T, m *image.Image) *pool.Pool {
	t.Helper()
	data, last := map[int]string{}, 0
	size, s := int64(geom.Size(m.Geom())), m.State()
	look := func(c api.Chart, read func(off int64) (string, api.Errno)) {
		blocks, l, err := chart.All(geom.Entries(m.Geom()), c)
		is(t, "All", err, api.OK)
		for i, e := range l {
			if e.Kind == api.EntryFresh {
				data[e.Fresh], err = read(int64(blocks[i]) * size)
				is(t, "Read", err, api.OK)
				last = max(last, e.Fresh)
			}
		}
	}
	look(s.Now, func(off int64) (string, api.Errno) { return m.Read(off, size) })
	for _, x := range s.Snaps {
		look(x.Chart, func(off int64) (string, api.Errno) { return m.ReadSnap(x.Id, off, size) })
	}
	p := pool.New()
	for i := range last {
		_, err := p.Add(data[i+1])
		is(t, "Add", err, api.OK)
	}
	return p
}

// planned is the plan of what is there.
func planned(t *testing.T, m *image.Image) (api.Plan, api.Errno) {
	t.Helper()
	return plan.Make(m.Geom(), m.State(), poolOf(t, m), m.Use())
}

// alike ends a test, if two devices have not the same bytes, sure ones and waiting ones.
func alike(t *testing.T, say string, a, b *dev.Dev) {
	t.Helper()
	if a.Bytes() != b.Bytes() || fmt.Sprint(a.Waiting()) != fmt.Sprint(b.Waiting()) || a.Writes() != b.Writes() {
		t.Fatalf("%s: the devices are not alike: %v wait, not %v", say, a.Waiting(), b.Waiting())
	}
}

// changes are some, one behind the other.
func changes(t *testing.T, m *image.Image) []func() {
	size := int64(geom.Size(m.Geom()))
	return []func(){
		func() {},
		func() { write(t, m, 10, some(1, 5*int(size))) },
		func() { snapshot(t, m, "one"); write(t, m, 3*size, some(2, 2*int(size))) },
		func() { is(t, "Zero", m.Zero(2, 2*size), api.OK) },
		func() { snapshot(t, m, "two"); is(t, "Delete", m.Delete(0), api.OK) },
		func() { write(t, m, 70*size, "far"); is(t, "Revert", m.Revert(1), api.OK) },
		func() { is(t, "Resize", m.Resize(1), api.OK) },
		func() {},
	}
}

func TestFlush(t *testing.T) { // 21.5: what is planned is committed
	for _, g := range []api.Geom{small(), wide()} {
		d, m := made(t, g, 100)
		for i, change := range changes(t, m) {
			change()
			p, err := planned(t, m)
			is(t, "Make", err, api.OK)
			twin := d.Clone()
			want, err := load.Commit(twin, g, int64(i+2), p)
			is(t, "Commit", err, api.OK)
			flush(t, m)
			shows(t, m, want)
			alike(t, "a flush", d, twin)
			back, err := load.Open(d)
			is(t, "load.Open", err, api.OK)
			shows(t, m, back)
		}
	}
}

func TestFlushNumbers(t *testing.T) { // 21.5, Words: they go on behind a flush, and the data go
	_, m := made(t, small(), 100)
	for i := range 5 {
		write(t, m, 0, some(i, 2*512))
		entries(t, m, 0, 2*i+1, 2*i+2, 0)
		if m.Dirty() != 2 {
			t.Errorf("Dirty = %d", m.Dirty())
		}
		flush(t, m)
		entries(t, m, 0, -1, -1, 0)
		if m.Dirty() != 0 {
			t.Errorf("Dirty = %d", m.Dirty())
		}
	}
}

func TestFlushCut(t *testing.T) { // 21.5: the image is broken, wherever the commit is cut off
	steps := 0
	for n := 0; ; n++ {
		d, m := kept(t, small())
		write(t, m, 0, some(1, 3*512))
		p, err := planned(t, m)
		is(t, "Make", err, api.OK)
		twin, was := d.Clone(), seen(m)
		d.Fuse(n)
		twin.Fuse(n)
		_, want := load.Commit(twin, small(), m.Gen()+1, p)
		if want == api.OK {
			flush(t, m)
			break
		}
		breaks(t, "Flush", m, m.Flush)
		alike(t, "a cut", d, twin)
		d.Crash()
		broken(t, "behind a crash", m) // it stays broken
		next, err := image.Open(d)
		is(t, "Open", err, api.OK)
		if next.Broken() || next.Gen() < was.Gen || next.Gen() > was.Gen+1 {
			t.Errorf("of %d steps there is the generation %d", n, next.Gen())
		}
		steps++
	}
	if steps < 10 {
		t.Errorf("there are %d steps", steps)
	}
}

func TestFlushOtherError(t *testing.T) { // 21.5: whatever error the commit has
	d, m := kept(t, small())
	cut, err := dev.Load(d.Bytes()[:10*512])
	is(t, "Load", err, api.OK)
	*d = *cut
	was := seen(m)
	is(t, "Flush", m.Flush(), api.ErrRange)
	was.Broken = true
	if now := seen(m); !same(was, now) {
		t.Errorf("there is %v now, not %v", now, was)
	}
	broken(t, "Flush", m)
}

func TestFlushLast(t *testing.T) { // 21.5: MaxGen is the last one
	d, m := laid(t, small(), api.MaxGen-1, api.State{Now: api.Chart{Blocks: 2000}})
	write(t, m, 0, "last")
	flush(t, m)
	if m.Gen() != api.MaxGen {
		t.Errorf("Gen = %d", m.Gen())
	}
	writes := d.Writes()
	fails(t, "behind the last one", m, api.ErrFull, m.Flush)
	write(t, m, 0, some(1, 100*512))
	fails(t, "and without room", m, api.ErrFull, m.Flush)
	if d.Writes() != writes {
		t.Error("something is written")
	}
	reads(t, m, 0, some(1, 100*512))
}

// unplanned ends a test, if a flush has not the plan's error, or anything changes.
func unplanned(t *testing.T, say string, d *dev.Dev, m *image.Image, want api.Errno) {
	t.Helper()
	if _, err := planned(t, m); err != want {
		t.Fatalf("%s: Make = %d, not %d", say, err, want)
	}
	bytes, writes := d.Bytes(), d.Writes()
	fails(t, say, m, want, m.Flush)
	if d.Bytes() != bytes || d.Writes() != writes || len(d.Waiting()) > 0 {
		t.Fatalf("%s: something is written", say)
	}
}

func TestFlushSpace(t *testing.T) { // 21.5: the plan's error, then nothing has changed
	d, m := made(t, small(), 100)
	s := some(1, 100*512)
	write(t, m, 0, s[:20*512])
	flush(t, m)
	write(t, m, 0, s)
	unplanned(t, "too few clusters for stripes", d, m, api.ErrSpace)
	reads(t, m, 0, s)
	is(t, "Discard", m.Discard(20*512, 80*512), api.OK)
	write(t, m, 20*512, "next")
	entries(t, m, 19, 40, 121) // twenty, a hundred, and this one
	flush(t, m)
	reads(t, m, 0, s[:20*512]+"next"+noughts(79*512-4))

	d, m = made(t, small(), 100)
	for n := 1; ; n++ { // one more till there is no room for pages, but for stripes
		write(t, m, 0, s[:n*512])
		if _, err := planned(t, m); err == api.ErrSpace {
			unplanned(t, "too few clusters for pages", d, m, api.ErrSpace)
			break
		}
	}
}

func TestFlushNoPlan(t *testing.T) { // 21.5
	x := api.State{Now: api.Chart{Blocks: 10}, NextStripe: api.MaxId - 2}
	d, m := laid(t, small(), 1, x)
	write(t, m, 0, "x")
	flush(t, m)
	write(t, m, 512, "x")
	unplanned(t, "no number for a stripe", d, m, api.ErrFull)

	g := api.Geom{K: 1, M: 0, Clusters: api.MaxClusters}
	d, m = made(t, g, api.MaxBlocks)
	for b := int64(0); b < api.MaxBlocks; b += 64 { // each table has one that is no hole
		write(t, m, b*512, "x")
	}
	snapshot(t, m, "one")
	unplanned(t, "too much metadata", d, m, api.ErrLong)
}

func TestFlushDown(t *testing.T) { // 21.5: the plan comes first
	d, m := made(t, small(), 100)
	write(t, m, 0, some(1, 100*512))
	d.Fuse(0)
	is(t, "Flush", d.Flush(), api.ErrDown)
	fails(t, "no plan", m, api.ErrSpace, m.Flush)
	is(t, "Resize", m.Resize(1), api.OK)
	breaks(t, "a plan", m, m.Flush)
}
