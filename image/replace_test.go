package image_test

import (
	"math"
	"slices"
	"testing"

	"caulk/api"
	"caulk/chart"
	"caulk/entry"
	"caulk/geom"
	"caulk/stripe"
)

// replace has m's Replace of l answer want.
func replace(t *testing.T, say string, call func() (int, api.Errno), want int) {
	t.Helper()
	if n, err := call(); n != want || err != api.OK {
		t.Fatalf("%s: Replace = %d, %d, not %d", say, n, err, want)
	}
}

func TestReplace(t *testing.T) { // 21.5
	d, m := made(t, small(), 100)
	s := some(1, 100*512)
	write(t, m, 0, s[:5*512])
	one := snapshot(t, m, "one")
	flush(t, m)
	write(t, m, 512, "over it")
	write(t, m, 80*512, s[:512])
	two := snapshot(t, m, "two")
	is(t, "Zero", m.Zero(3*512, 512), api.OK)
	entries(t, m, 0, -1, 6, -1, 0, -1, 0)
	writes := d.Writes()
	l := []api.Place{{Stripe: 1, Member: 1}, {Stripe: 0, Member: 0}, {Stripe: 0, Member: 1}}
	replace(t, "three", func() (int, api.Errno) { return m.Replace(l) }, 3)
	entries(t, m, 0, 9, 6, -1, 0, -1, 0) // of the first one, a snapshot alone has it
	if d.Writes() != writes || m.Dirty() != 5 {
		t.Errorf("%d sectors are written, Dirty = %d", d.Writes()-writes, m.Dirty())
	}
	want := map[int][]int{one: {9, 10, -1, 8, -1, 0}, two: {9, 6, -1, 8, -1, 0}}
	for _, x := range m.State().Snaps {
		for b, n := range want[x.Id] {
			e, err := chart.Get(64, x.Chart, b)
			is(t, "Get", err, api.OK)
			if n > 0 && e != (api.Entry{Kind: api.EntryFresh, Fresh: n}) || n < 0 && e.Kind != api.EntryDisk || n == 0 && e != (api.Entry{}) {
				t.Errorf("of %d the block %d has %v, not %d", x.Id, b, e, n)
			}
		}
	}
	for range 2 {
		readsSnap(t, m, one, 0, s[:5*512]+noughts(95*512))
		readsSnap(t, m, two, 0, s[:512]+"over it"+s[519:5*512]+noughts(75*512)+s[:512]+noughts(19*512))
		reads(t, m, 0, s[:512]+"over it"+s[519:3*512]+noughts(512)+s[4*512:5*512]+noughts(75*512)+s[:512]+noughts(19*512))
		flush(t, m)
	}
	if l := m.State().Stripes; len(l) != 5 || l[0].Id != 1 || l[4].Id != 5 { // the first one has nothing any more
		t.Errorf("the stripes are %v", l)
	}
}

func TestReplaceNone(t *testing.T) { // 21.5: to which no entry refers; or not any more
	_, m := made(t, small(), 10)
	for _, l := range [][]api.Place{nil, {}, {{}}} {
		fails(t, "Replace", m, api.OK, func() api.Errno { n, err := m.Replace(l); return err + api.Errno(n) })
	}
	write(t, m, 0, some(1, 3*512))
	fails(t, "fresh ones", m, api.OK, func() api.Errno { n, err := m.Replace([]api.Place{{}}); return err + api.Errno(n) })
	flush(t, m)
	write(t, m, 512, some(2, 512))
	none := []api.Place{
		{Stripe: 0, Member: 1}, {Stripe: 1, Member: 1}, {Stripe: 0, Member: 2}, {Stripe: 2}, {Stripe: -1}, {Member: -1},
		{Stripe: math.MinInt, Member: math.MinInt}, {Stripe: math.MaxInt, Member: math.MaxInt},
	}
	fails(t, "Replace", m, api.OK, func() api.Errno { n, err := m.Replace(none); return err + api.Errno(n) })
	l := slices.Concat(none, []api.Place{{}, {}, {Stripe: 1}}, none, []api.Place{{Stripe: 1}, {}})
	given := slices.Clone(l)
	replace(t, "two", func() (int, api.Errno) { return m.Replace(l) }, 2)
	if !slices.Equal(l, given) {
		t.Error("what was handed in is changed")
	}
	entries(t, m, 0, 5, 4, 6, 0)
	reads(t, m, 0, some(1, 512)+some(2, 512)+some(1, 3*512)[1024:]+noughts(7*512))
	replace(t, "none any more", func() (int, api.Errno) { return m.Replace(l) }, 0)
	write(t, m, 0, "x")
	entries(t, m, 0, 7, 4, 6, 0)
}

func TestReplaceShared(t *testing.T) { // 21.5: all entries of a place, in one map, too
	g := small()
	x, pieces, err := stripe.Make(g, 0, []int{2, 3, 4}, some(1, 512), some(2, 512))
	is(t, "Make", err, api.OK)
	now := api.Chart{Blocks: 200}
	for i := range 3 {
		now.Tables = append(now.Tables, api.Table{At: i, L: make([]api.Entry, geom.Entries(g))})
		now.Tables[i].L[5] = entry.Disk(api.Place{})
		now.Tables[i].L[6] = entry.Disk(api.Place{Member: 1})
	}
	_, m := laid(t, g, 7, api.State{Now: now, Stripes: []api.Stripe{x}, NextStripe: 1}, pieces)
	replace(t, "one", func() (int, api.Errno) { return m.Replace([]api.Place{{}}) }, 1)
	for i := range 3 {
		entries(t, m, i*64+4, 0, 1, -1, 0)
		reads(t, m, int64(i)*64*512, noughts(5*512)+some(1, 512)+some(2, 512)+noughts(512))
	}
	write(t, m, (64+5)*512, "own") // each block goes its own way
	entries(t, m, 64+5, 2, -1)
	reads(t, m, 5*512, some(1, 512))
	flush(t, m)
	reads(t, m, 0, noughts(5*512)+some(1, 512)+some(2, 512)+noughts(62*512)+"own"+some(1, 512)[3:]+some(2, 512))
}

func TestReplaceDamaged(t *testing.T) { // 21.5: the first error of reading, nothing has changed then
	d, m := made(t, small(), 20)
	s := some(1, 6*512)
	write(t, m, 0, s)
	flush(t, m)
	whole := d.Bytes()
	erase(t, d, m, place(t, m, 0))
	spoilt(t, d, m, 3)
	bad, down := []api.Place{place(t, m, 0), place(t, m, 4), place(t, m, 3)}, []api.Place{place(t, m, 5), place(t, m, 0), place(t, m, 3)}
	fails(t, "Replace", m, api.ErrDamaged, func() api.Errno { return answers(t, func() (int, api.Errno) { return m.Replace(bad) }) })
	if l := d.Waiting(); len(l) != 1 || l[0] != cluster(t, m, place(t, m, 0)) { // what came back is written
		t.Errorf("%v wait", l)
	}
	is(t, "Flush", d.Flush(), api.OK)
	at := cluster(t, m, place(t, m, 0)) * 512
	if d.Bytes()[at:at+512] != whole[at:at+512] {
		t.Error("other bytes are written")
	}
	write(t, m, 19*512, "x")
	entries(t, m, 18, 0, 7)
	replace(t, "the others", func() (int, api.Errno) { return m.Replace(bad[:2]) }, 2)
	entries(t, m, 0, 8, -1, -1, -1, 9, -1)

	d, m = made(t, small(), 20)
	write(t, m, 0, s)
	flush(t, m)
	erase(t, d, m, place(t, m, 0))
	spoilt(t, d, m, 3)
	d.Fuse(0)
	breaks(t, "what came back can't be written", m, func() api.Errno { return answers(t, func() (int, api.Errno) { return m.Replace(down) }) })
	_, m = downed(t, s)
	replace(t, "none", func() (int, api.Errno) { return m.Replace(nil) }, 0)
	breaks(t, "down", m, func() api.Errno { return answers(t, func() (int, api.Errno) { return m.Replace(down) }) })
}
