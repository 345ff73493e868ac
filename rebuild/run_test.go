package rebuild_test

import (
	"slices"
	"strings"
	"testing"

	"caulk/api"
	"caulk/check"
	"caulk/damage"
	"caulk/dev"
	"caulk/geom"
	"caulk/image"
	"caulk/load"
	"caulk/pages"
	"caulk/plan"
	"caulk/pool"
	"caulk/rebuild"
	"caulk/scrub"
	"caulk/super"
)

// saved ends a test, if something of d is lost, or its maps are not read as this.
func saved(t *testing.T, say string, d *dev.Dev, want map[int][]string) {
	t.Helper()
	gone, err := check.Lost(d, opened(t, d))
	if len(gone) > 0 || err != api.OK {
		t.Fatalf("%s: Lost = %v, %d", say, gone, err)
	}
	if got := all(t, d); !same(got[-1], want[-1]) || !same(got[1], want[1]) || len(got) != len(want) {
		t.Fatalf("%s: it is read as %v, not %v", say, got, want)
	}
}

func TestRunNone(t *testing.T) { // 25.2: ErrNone, if there is no superblock
	d, err := dev.New(80)
	is(t, "dev.New", err, api.OK)
	fails(t, "blank", d, api.ErrNone)
	whole, _ := grown(t, small())
	d = whole.Clone()
	is(t, "Erase", d.Erase(0)+d.Erase(1), api.OK)
	fails(t, "both erased", d, api.ErrNone)
	d = whole.Clone()
	is(t, "Garble", d.Garble(0, 100, 1)+d.Garble(1, 511-3, 1), api.OK)
	fails(t, "both garbled", d, api.ErrNone)
	if d.Writes() != whole.Writes() || len(d.Waiting()) > 0 {
		t.Errorf("%d sectors are written", d.Writes()-whole.Writes())
	}
	for _, n := range []int{1, 2, 79} {
		d, err = dev.Load(whole.Bytes()[:n*512])
		is(t, "Load", err, api.OK)
		fails(t, "a device that is too small", d, api.ErrNone)
	}
}

func TestRunDown(t *testing.T) { // 25.2: super.Find's error, whatever there is
	whole, o := grown(t, small())
	for say, l := range map[string][]int{"whole": nil, "no superblocks": {0, 1}, "no pages": {o.Super.Root.A, o.Super.Root.B}, "lost": o.State.Stripes[1].At} {
		d := whole.Clone()
		erase(t, d, small(), l...)
		d.Fuse(0)
		is(t, "Flush", d.Flush(), api.ErrDown)
		fails(t, say, d, api.ErrDown)
	}
}

func TestRunNothing(t *testing.T) { // 25.2: if nothing is lost, what was read
	for _, g := range []api.Geom{small(), wide(), bare()} {
		d, o := grown(t, g)
		bytes, writes, last := d.Bytes(), d.Writes(), d.Sectors()-1
		if got := runs(t, "whole", d, api.Report{}); !same(got, o) || d.Writes() != writes || d.Bytes() != bytes {
			t.Errorf("%d sectors are written, there is %v", d.Writes()-writes, got)
		}
		is(t, "Write", d.Write(last, strings.Repeat("w", 512)), api.OK)
		if got := runs(t, "something waits", d, api.Report{}); !same(got, o) || d.Bytes() != bytes[:last*512]+strings.Repeat("w", 512) {
			t.Errorf("there is %v", got)
		}
	}
}

func TestRunHealed(t *testing.T) { // 25.2: what comes back is healed, and nothing is committed
	d, o := grown(t, small())
	bytes, writes, reads := d.Bytes(), d.Writes(), all(t, d)
	erase(t, d, small(), 1, o.Pages[0].A, o.Pages[2].B, o.State.Stripes[0].At[2], o.State.Stripes[3].At[0])
	want := []api.Wound{
		{Kind: api.WoundSlot, Id: 1, At: 1, Healed: true},
		{Kind: api.WoundPage, Id: 0, Index: 0, At: o.Pages[0].A, Healed: true},
		{Kind: api.WoundPage, Id: 2, Index: 1, At: o.Pages[2].B, Healed: true},
		member(o, 0, 2, true), member(o, 3, 0, true),
	}
	if got := runs(t, "healed", d, api.Report{Wounds: want}); !same(got, o) || d.Bytes() != bytes || d.Writes() != writes+5 || len(d.Bad()) > 0 {
		t.Errorf("%d sectors are written, %v are bad, there is %v", d.Writes()-writes, d.Bad(), got)
	}
	saved(t, "healed", d, reads)
	runs(t, "once more", d, api.Report{})

	x := o.State.Stripes[2] // parity, that does not come back as the sum of its own: a wound that stays open, but nothing is lost
	is(t, "Garble", d.Garble(x.At[1], 0, 0x05ec76f1)+d.Garble(x.At[1], 4, 1), api.OK)
	erase(t, d, small(), x.At[2])
	if got := runs(t, "open", d, api.Report{Wounds: []api.Wound{member(o, 2, 2, false)}}); !same(got, o) || d.Writes() != writes+5 {
		t.Errorf("%d sectors are written, there is %v", d.Writes()-writes, got)
	}
}

func TestRunLost(t *testing.T) { // 25.2, 25.4: what is lost is holes, in the next generation
	d, o := grown(t, small())
	reads := all(t, d)
	l := o.State.Stripes
	erase(t, d, small(), l[0].At[0], l[0].At[1], l[1].At[2], l[2].At[0], l[2].At[2], o.Pages[1].B)
	want := api.Report{
		Wounds: []api.Wound{
			{Kind: api.WoundPage, Id: 1, Index: 1, At: o.Pages[1].B, Healed: true},
			member(o, 0, 0, false), member(o, 0, 1, false), member(o, 1, 2, true), member(o, 2, 0, false), member(o, 2, 2, false),
		},
		Lost: slices.Concat(lost(-1, 0, 1, 4, 5), lost(1, 0, 2, 4, 5)),
	}
	got := runs(t, "lost", d, want)
	s := got.State
	now := build(64, 100, map[int]api.Entry{1: disk(3, 0), 2: disk(3, 1), 3: disk(1, 1), 5: disk(2, 1)})
	old := build(64, 100, map[int]api.Entry{2: disk(1, 0), 3: disk(1, 1), 5: disk(2, 1)})
	if got.Super.Gen != 4 || !same(s.Now, now) || !same(s.Snaps, []api.Snap{{Id: 1, Name: "b", Chart: old}}) {
		t.Errorf("there is %v", got)
	}
	if !same(s.Stripes, l[1:]) || s.NextStripe != 4 || s.NextSnap != 2 { // nothing refers to the first one any more
		t.Errorf("there is %v", s)
	}
	for _, p := range o.Pages { // what was committed ahead of it stood till it was done
		if got.Use[p.A] || got.Use[p.B] {
			t.Errorf("the page %v is there still", p)
		}
	}
	saved(t, "lost", d, holed(reads, want.Lost))
	wounds := []api.Wound{member(o, 2, 0, false), member(o, 2, 2, false)} // a member that is good keeps its stripe
	if again := runs(t, "once more", d, api.Report{Wounds: wounds}); !same(again, got) {
		t.Errorf("once more there is %v", again)
	}
}

func TestRunAllLost(t *testing.T) { // 25.2: nothing but holes is left
	for _, g := range []api.Geom{small(), wide(), bare()} {
		d, o := grown(t, g)
		for _, x := range o.State.Stripes {
			erase(t, d, g, x.At...)
		}
		report, got, err := rebuild.Run(d)
		want := slices.Concat(lost(-1, 0, 6), lost(1, 0, 6))
		if !same(report.Lost, want) || damage.Open(report) != len(o.State.Stripes)*(g.K+g.M) || err != api.OK {
			t.Errorf("Run = %v, %d", report, err)
		}
		empty := api.Chart{Blocks: 100}
		if got.Super.Gen != 4 || !same(got.State, api.State{Now: empty, Snaps: []api.Snap{{Id: 1, Name: "b", Chart: empty}}, NextStripe: o.State.NextStripe, NextSnap: 2}) {
			t.Errorf("there is %v", got)
		}
		found, sound, err := check.Look(d)
		if !same(found, api.Report{}) || !sound || err != api.OK {
			t.Errorf("Look = %v, %v, %d", found, sound, err)
		}
	}
}

// newer commits s to d as the generation gen, but to the slot 0 alone.
func newer(t *testing.T, d *dev.Dev, o api.Opened, gen int64, s api.State) api.Opened {
	t.Helper()
	p, err := plan.Make(small(), s, pool.New(), o.Use)
	is(t, "Make", err, api.OK)
	d.Fuse(2*len(p.Pages) + 3) // the pages, a flush, the slot 0, a flush
	_, err = load.Commit(d, small(), gen, p)
	is(t, "Commit", err, api.ErrDown)
	d.Crash()
	now := opened(t, d)
	if now.Super.Gen != gen {
		t.Fatalf("it opens as %v", now.Super)
	}
	return now
}

func TestRunFirst(t *testing.T) { // 25.2: the first superblock whose container can be read
	whole, o := grown(t, small())
	reads := all(t, whole)
	s := plain(o.State)
	s.Now = api.Chart{Blocks: 7}
	is(t, "Erase", whole.Erase(o.Pages[0].A), api.OK)
	o9 := newer(t, whole, o, 9, s)
	page := api.Wound{Kind: api.WoundPage, At: o.Pages[0].A, Healed: true}

	d := whole.Clone() // the newer one, if it can be read
	if got := runs(t, "the newer one", d, api.Report{Wounds: []api.Wound{{Kind: api.WoundSlot, Id: 1, At: 1, Healed: true}}}); !same(got, o9) {
		t.Errorf("there is %v", got)
	}

	older := []api.Wound{{Kind: api.WoundSlot, Healed: true}, page}
	for say, hurt := range map[string]func(d *dev.Dev) api.Errno{
		"no root": func(d *dev.Dev) api.Errno { return d.Erase(o9.Super.Root.A) + d.Erase(o9.Super.Root.B) },
		"no leaf": func(d *dev.Dev) api.Errno { return d.Erase(o9.Pages[0].A) + d.Garble(o9.Pages[0].B, 0, 1) },
		"no state": func(d *dev.Dev) api.Errno { // it has the pages that it says, but they are nothing's bytes
			l, root, err := pages.Build(small(), "text", []int{70, 71})
			is(t, "Build", err+pages.Write(d, small(), l), api.OK)
			return super.Write(d, 0, api.Super{Gen: 8, Geom: small(), Length: 4, Root: root}) + d.Flush()
		},
		"as new": func(d *dev.Dev) api.Errno { // of one generation the slot 0 comes first
			return super.Write(d, 0, api.Super{Gen: 3, Geom: small(), Length: 4, Root: api.Ptr{A: 70, B: 71}}) + d.Flush()
		},
	} {
		d := whole.Clone()
		is(t, say, hurt(d), api.OK)
		if got := runs(t, say, d, api.Report{Wounds: older}); !same(got, o) {
			t.Errorf("%s: there is %v", say, got)
		}
		saved(t, say, d, reads) // both slots have the older one now
	}

	d = whole.Clone() // the older one, with something lost: the next generation is its own next one
	is(t, "Erase", d.Erase(o9.Super.Root.A)+d.Erase(o9.Super.Root.B), api.OK)
	x := o.State.Stripes[3]
	erase(t, d, small(), x.At...)
	gone := lost(-1, 1, 3)
	wounds := append(slices.Clone(older), member(o, 3, 0, false), member(o, 3, 1, false), member(o, 3, 2, false))
	got := runs(t, "lost", d, api.Report{Wounds: wounds, Lost: gone})
	if got.Super.Gen != 4 || !same(got.State.Stripes, o.State.Stripes[:3]) {
		t.Errorf("there is %v", got)
	}
	saved(t, "lost", d, holed(reads, gone))
}

func TestRunDamaged(t *testing.T) { // 25.2: ErrDamaged, if there is none that can be read
	d, o := grown(t, small())
	last := len(o.Pages) - 1
	for i, p := range o.Pages {
		one := d.Clone()
		erase(t, one, small(), p.A, p.B, i%2)
		fails(t, "a page", one, api.ErrDamaged)
		if one.Writes() != d.Writes() || len(one.Bad()) != 3 {
			t.Errorf("%d sectors are written", one.Writes()-d.Writes())
		}
	}
	s := plain(o.State)
	s.Now = api.Chart{}
	o9 := newer(t, d, o, 9, s)
	erase(t, d, small(), o.Pages[last].A, o.Pages[last].B, o9.Super.Root.A, o9.Super.Root.B)
	fails(t, "both", d, api.ErrDamaged)
}

func TestRunSpace(t *testing.T) { // 25.2: the report, beside the plan's error
	g := api.Geom{K: 2, M: 1, Clusters: 13} // slots, a page, a stripe, three pages
	whole, err := dev.New(13)
	is(t, "dev.New", err, api.OK)
	m, err := image.New(whole, g, 10)
	is(t, "New", err, api.OK)
	is(t, "Write", m.Write(0, some(1, 1024)), api.OK)
	is(t, "Flush", m.Flush(), api.OK)
	o, reads := opened(t, whole), all(t, whole)

	d := whole.Clone()
	erase(t, d, g, 0, o.State.Stripes[0].At[0], o.State.Stripes[0].At[2])
	want := api.Report{Wounds: []api.Wound{{Kind: api.WoundSlot, Healed: true}, member(o, 0, 0, false), member(o, 0, 2, false)}, Lost: lost(-1, 0, 1)}
	report, got, err := rebuild.Run(d)
	if !same(report, want) || !same(got, api.Opened{}) || err != api.ErrSpace {
		t.Errorf("Run = %v, %v, %d", report, got, err)
	}
	if now := opened(t, d); !same(now, o) || len(d.Waiting()) > 0 || d.Writes() != whole.Writes()+1 {
		t.Errorf("%d sectors are written, there is %v", d.Writes()-whole.Writes(), now)
	}

	d = whole.Clone() // a map of holes alone has one page
	erase(t, d, g, o.State.Stripes[0].At[0], o.State.Stripes[0].At[1])
	want = api.Report{Wounds: []api.Wound{member(o, 0, 0, false), member(o, 0, 1, false)}, Lost: lost(-1, 0, 2)}
	if got := runs(t, "all", d, want); got.Super.Gen != 3 || !same(got.State, api.State{Now: api.Chart{Blocks: 10}, NextStripe: 1}) || len(got.Pages) != 1 {
		t.Errorf("there is %v", got)
	}
	saved(t, "all", d, holed(reads, want.Lost))
}

func TestRunLastGen(t *testing.T) { // 25.2: behind the last generation there is none: load.Commit's error
	for _, gen := range []int64{api.MaxGen - 1, api.MaxGen} {
		d, o := grown(t, small())
		p, err := plan.Make(small(), o.State, pool.New(), o.Use)
		is(t, "Make", err, api.OK)
		o, err = load.Commit(d, small(), gen, p)
		is(t, "Commit", err, api.OK)
		if got := runs(t, "nothing is lost", d, api.Report{}); !same(got, o) {
			t.Errorf("there is %v", got)
		}
		erase(t, d, small(), o.State.Stripes[3].At...)
		want := api.Report{Wounds: []api.Wound{member(o, 3, 0, false), member(o, 3, 1, false), member(o, 3, 2, false)}, Lost: lost(-1, 1, 3)}
		if gen < api.MaxGen {
			if got := runs(t, "the last one", d, want); got.Super.Gen != api.MaxGen {
				t.Errorf("there is %v", got)
			}
			continue
		}
		bytes, writes := d.Bytes(), d.Writes()
		report, got, err := rebuild.Run(d)
		if !same(report, want) || !same(got, api.Opened{}) || err != api.ErrForm || d.Bytes() != bytes || d.Writes() != writes {
			t.Errorf("Run = %v, %v, %d", report, got, err)
		}
	}
}

func TestRunCutOff(t *testing.T) { // 25.2: ErrDown of the scrub alone, or of the commit beside the report; 25.4
	g := wide()
	whole, o := grown(t, g)
	reads := all(t, whole)
	x := o.State.Stripes[1].At
	erase(t, whole, g, o.Pages[1].B, o.State.Stripes[0].At[3], x[0], x[2], x[4])
	is(t, "Erase", whole.Erase(1), api.OK)
	gone := slices.Concat(lost(-1, 3, 4, 5, 6), lost(1, 3, 4, 5, 6))
	want, next := holed(reads, gone), draw(1)
	scrubbed := 1 + 2 + 2 + 1 // the slot 1, a page, a member, a flush
	var s, c int
	for fuse := 0; ; fuse++ {
		d := whole.Clone()
		d.Fuse(fuse)
		report, got, err := rebuild.Run(d)
		if err == api.OK {
			d.Fuse(-1)
			saved(t, "done", d, want)
			break
		}
		if err != api.ErrDown || !same(got, api.Opened{}) || !d.Down() {
			t.Fatalf("behind %d steps Run = %v, %v, %d", fuse, report, got, err)
		}
		if fuse < scrubbed {
			s++
			if !same(report, api.Report{}) {
				t.Fatalf("behind %d steps Run = %v", fuse, report)
			}
		} else {
			c++
			if !same(report.Lost, gone) || len(report.Wounds) != 6 || damage.Open(report) != 3 {
				t.Fatalf("behind %d steps Run = %v", fuse, report)
			}
		}
		for i := range 4 {
			crashed := d.Clone()
			keep := make([]bool, len(d.Waiting()))
			for j := range keep {
				keep[j] = i == 1 || i > 1 && next(2) == 0
			}
			crashed.Crash(keep...)
			again, now, err := rebuild.Run(crashed)
			if err != api.OK || now.Super.Gen != 4 || len(again.Lost) > 0 && !same(again.Lost, gone) {
				t.Fatalf("behind a crash Run = %v, %v, %d", again, now, err)
			}
			saved(t, "behind a crash", crashed, want)
		}
	}
	if s != scrubbed || c < 5 {
		t.Errorf("%d times the scrub was cut off, %d times the commit", s, c)
	}
}

// byHand is what a run does, step by step, as the chapter's words say it.
func byHand(d *dev.Dev) (api.Report, api.Opened, api.Errno) {
	l, err := super.Find(d)
	if err != api.OK || len(l) == 0 {
		return api.Report{}, api.Opened{}, max(err, api.ErrNone)
	}
	var o api.Opened
	for _, x := range l {
		if o, err = load.Read(d, x.Super); err == api.OK {
			break
		}
	}
	if err != api.OK {
		return api.Report{}, api.Opened{}, api.ErrDamaged
	}
	report, err := scrub.Run(d, o)
	if err != api.OK {
		return api.Report{}, api.Opened{}, err
	}
	if len(report.Lost) == 0 {
		return report, o, api.OK
	}
	s, _ := rebuild.Without(o.Super.Geom, o.State, report.Lost)
	p, err := plan.Make(o.Super.Geom, s, pool.New(), o.Use)
	if err != api.OK {
		return report, api.Opened{}, err
	}
	o, err = load.Commit(d, o.Super.Geom, o.Super.Gen+1, p)
	return report, o, err
}

// hurt damages so many sectors of d, by chance; seldom the slots and the pages of o.
func hurt(d *dev.Dev, o api.Opened, many int, next func(n int) int) {
	g := o.Super.Geom
	meta := []int{0, 1}
	for _, p := range o.Pages {
		meta = append(meta, p.A<<g.Shift, p.B<<g.Shift)
	}
	for range many {
		at := next(d.Sectors())
		if slices.Contains(meta, at) && next(4) > 0 {
			continue
		}
		if next(2) == 0 {
			d.Erase(at)
		} else {
			d.Garble(at, next(509), uint32(1+next(1<<20)))
		}
	}
}

func TestRunByChance(t *testing.T) { // 25.2, step by step; 25.4: all but what is lost
	var done, saves, ends int
	for seed := range 150 {
		g := []api.Geom{small(), wide(), bare()}[seed%3]
		d, o := grown(t, g)
		reads, next := all(t, d), draw(uint64(seed))
		hurt(d, o, next(geom.Sectors(g)/2), next)
		if next(4) == 0 {
			d.Fuse(next(20))
		}
		twin := d.Clone()
		report, got, err := rebuild.Run(d)
		want, is, e := byHand(twin)
		if !same(report, want) || !same(got, is) || err != e {
			t.Fatalf("%d: Run = %v, %v, %d, not %v, %v, %d", seed, report, got, err, want, is, e)
		}
		if d.Bytes() != twin.Bytes() || d.Writes() != twin.Writes() || !slices.Equal(d.Bad(), twin.Bad()) || !slices.Equal(d.Waiting(), twin.Waiting()) {
			t.Fatalf("%d: %d sectors are written, not %d", seed, d.Writes(), twin.Writes())
		}
		switch {
		case err != api.OK:
			ends++
			continue
		case len(report.Lost) > 0:
			saves++
		default:
			done++
		}
		d.Fuse(-1)
		d.Crash() // all of it is sure
		if now := opened(t, d); !same(now, got) {
			t.Fatalf("%d: it opens as %v, not %v", seed, now, got)
		}
		saved(t, "by chance", d, holed(reads, report.Lost))
	}
	if done < 10 || saves < 30 || ends < 10 {
		t.Errorf("%d times nothing was lost, %d times something, %d times there was an error", done, saves, ends)
	}
}

func TestRunMemory(t *testing.T) { // 25.3
	for _, l := range [][]int{nil, {0, 1, 2}} {
		d, o := grown(t, small())
		for _, i := range l {
			erase(t, d, small(), o.State.Stripes[3].At[i])
		}
		report, got, err := rebuild.Run(d)
		is(t, "Run", err, api.OK)
		want := plain(got)
		clear(report.Lost)
		clear(report.Wounds)
		if now := opened(t, d); !same(got, want) || !same(now, want) {
			t.Errorf("there is %v, not %v", now, want)
		}
		spoil(got.State)
		clear(got.Pages)
		clear(got.Use)
		if again, now, err := rebuild.Run(d); len(again.Lost) > 0 || !same(now, want) || err != api.OK {
			t.Errorf("Run = %v, %v, %d, not %v", again, now, err, want)
		}
	}
}
