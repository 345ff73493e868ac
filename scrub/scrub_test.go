package scrub_test

import (
	"math"
	"slices"
	"strings"
	"testing"

	"caulk/api"
	"caulk/check"
	"caulk/damage"
	"caulk/dev"
	"caulk/geom"
	"caulk/pages"
	"caulk/scrub"
	"caulk/stripe"
	"caulk/super"
)

// slot, page and member are wounds that are not healed.
func slot(n int) api.Wound {
	return api.Wound{Kind: api.WoundSlot, Id: n, At: n}
}

func page(o api.Opened, id, index int) api.Wound {
	return api.Wound{Kind: api.WoundPage, Id: id, Index: index, At: []int{o.Pages[id].A, o.Pages[id].B}[index]}
}

func member(o api.Opened, i, index int) api.Wound {
	x := o.State.Stripes[i]
	return api.Wound{Kind: api.WoundStripe, Id: x.Id, Index: index, At: x.At[index]}
}

// healed is these wounds, healed.
func healed(l ...api.Wound) []api.Wound {
	for i := range l {
		l[i].Healed = true
	}
	return l
}

// lost is ranges of a map: From, To, From, To ..
func lost(chart int, l ...int) []api.Lost {
	var all []api.Lost
	for i := 0; i < len(l); i += 2 {
		all = append(all, api.Lost{Chart: chart, Blocks: api.Range{From: l[i], To: l[i+1]}})
	}
	return all
}

// wounded is a report of wounds alone.
func wounded(l ...api.Wound) api.Report {
	return api.Report{Wounds: l}
}

// sound ends a test, if o is not sound.
func sound(t *testing.T, say string, d *dev.Dev, o api.Opened) {
	t.Helper()
	got, is, err := check.Of(d, o)
	if len(got.Wounds) > 0 || len(got.Lost) > 0 || !is || err != api.OK {
		t.Fatalf("%s: Of = %v, %v, %d", say, got, is, err)
	}
}

// again ends a test, if a second run finds or writes anything but what could not be healed.
func again(t *testing.T, say string, d *dev.Dev, o api.Opened, open api.Report) {
	t.Helper()
	bytes, writes, bad := d.Bytes(), d.Writes(), d.Bad()
	runs(t, say+", once more", d, o, open)
	if d.Bytes() != bytes || d.Writes() != writes || !slices.Equal(d.Bad(), bad) {
		t.Fatalf("%s: once more, and %d sectors are written", say, d.Writes()-writes)
	}
}

func TestNothing(t *testing.T) { // 24.1: nothing is found, and written; the device is flushed
	for _, g := range []api.Geom{small(), wide(), bare()} {
		d, o := grown(t, g)
		bytes, writes := d.Bytes(), d.Writes()
		runs(t, "whole", d, o, api.Report{})
		if d.Bytes() != bytes || d.Writes() != writes {
			t.Errorf("%d sectors are written", d.Writes()-writes)
		}
		last := d.Sectors() - 1
		is(t, "Write", d.Write(last, strings.Repeat("w", 512)), api.OK)
		runs(t, "something waits", d, o, api.Report{})
		if d.Bytes() != bytes[:last*512]+strings.Repeat("w", 512) || d.Writes() != writes+1 {
			t.Error("what waits is not sure")
		}
	}
}

func TestSlots(t *testing.T) { // 24.1: wounds of slots, At the sector
	for _, x := range []struct {
		say  string
		hurt func(d *dev.Dev, s api.Super) api.Errno
		want []int
	}{
		{"the slot 0 erased", func(d *dev.Dev, s api.Super) api.Errno { return d.Erase(0) }, []int{0}},
		{"the slot 1 garbled", func(d *dev.Dev, s api.Super) api.Errno { return d.Garble(1, 508, 1<<31) }, []int{1}},
		{"both", func(d *dev.Dev, s api.Super) api.Errno { return d.Erase(1) + d.Garble(0, 0, 1) }, []int{0, 1}},
		{"an older one", func(d *dev.Dev, s api.Super) api.Errno { s.Gen--; return super.Write(d, 1, s) }, []int{1}},
		{"a newer one", func(d *dev.Dev, s api.Super) api.Errno { s.Gen++; return super.Write(d, 0, s) + d.Flush() }, []int{0}},
	} {
		for _, g := range []api.Geom{small(), wide()} {
			d, o := grown(t, g)
			bytes := d.Bytes()
			is(t, x.say, x.hurt(d, o.Super), api.OK)
			var want []api.Wound
			for _, at := range x.want {
				want = append(want, slot(at))
			}
			writes := d.Writes()
			runs(t, x.say, d, o, wounded(healed(want...)...))
			if d.Bytes() != bytes || d.Writes() != writes+len(want) || len(d.Bad()) > 0 {
				t.Errorf("%s: %d sectors are written, %v are bad", x.say, d.Writes()-writes, d.Bad())
			}
			sound(t, x.say, d, o)
			again(t, x.say, d, o, api.Report{})
		}
	}
}

func TestPages(t *testing.T) { // 24.1: by their place, Index 0 of A, and 1 of B
	for _, g := range []api.Geom{small(), wide()} {
		whole, o := grown(t, g)
		for id := range o.Pages {
			for i := range 1 << g.Shift {
				a, b := page(o, id, 0), page(o, id, 1)
				for _, w := range []api.Wound{a, b} {
					d := whole.Clone()
					is(t, "Erase", d.Erase(sector(g, w.At, i)), api.OK)
					runs(t, "one", d, o, wounded(healed(w)...))
					if d.Bytes() != whole.Bytes() || d.Writes() != whole.Writes()+1<<g.Shift || len(d.Bad()) > 0 {
						t.Fatalf("%d sectors are written, %v are bad", d.Writes()-whole.Writes(), d.Bad())
					}
					sound(t, "one", d, o)
					again(t, "one", d, o, api.Report{})
				}
				d := whole.Clone()
				is(t, "Garble", d.Garble(sector(g, a.At, i), 7, 1), api.OK)
				is(t, "Erase", d.Erase(sector(g, b.At, i)), api.OK)
				again(t, "both", d, o, wounded(a, b)) // none of both has what the page was
			}
		}
	}
}

func TestPagesByHand(t *testing.T) { // 24.1: whatever what was opened says
	whole, o := grown(t, small())
	p, free := o.Pages[1], 79
	for _, x := range []struct {
		say  string
		l    []api.Ptr
		hurt []int
		want []api.Wound
	}{
		{say: "none"},
		{say: "both copies at one cluster", l: []api.Ptr{{A: p.A, B: p.A, Sum: p.Sum}}},
		{"both bad", []api.Ptr{{A: p.A, B: p.A, Sum: p.Sum}}, []int{p.A}, []api.Wound{{Kind: 2, At: p.A}, {Kind: 2, Index: 1, At: p.A}}},
		{"both bad, ahead of one that is whole", []api.Ptr{{A: free, B: free}, p}, nil, []api.Wound{{Kind: 2, At: free}, {Kind: 2, Index: 1, At: free}}},
		{"a copy nowhere", []api.Ptr{{A: p.A, B: 80, Sum: p.Sum}}, nil, []api.Wound{{Kind: 2, Index: 1, At: 80}}},
		{"a copy below 0", []api.Ptr{p, {A: math.MinInt, B: p.B, Sum: p.Sum}}, nil, []api.Wound{{Kind: 2, Id: 1, At: math.MinInt}}},
		{"no copy", []api.Ptr{{A: -1, B: math.MaxInt}}, nil, []api.Wound{{Kind: 2, At: -1}, {Kind: 2, Index: 1, At: math.MaxInt}}},
		{"a page twice", []api.Ptr{p, p}, []int{p.B}, []api.Wound{{Kind: 2, Index: 1, At: p.B, Healed: true}}},
		{"a free cluster", []api.Ptr{{A: free, B: p.B, Sum: p.Sum}}, nil, []api.Wound{{Kind: 2, At: free, Healed: true}}},
		{"the other way round", []api.Ptr{{A: p.B, B: p.A, Sum: p.Sum}}, []int{p.A}, []api.Wound{{Kind: 2, Index: 1, At: p.A, Healed: true}}},
		{"by the one ahead of it", []api.Ptr{{A: p.A, B: free, Sum: p.Sum}, {A: free, B: p.B, Sum: p.Sum}}, []int{p.B}, []api.Wound{{Kind: 2, Index: 1, At: free, Healed: true}, {Kind: 2, Id: 1, Index: 1, At: p.B, Healed: true}}},
		{"not by the one behind it", []api.Ptr{{A: free, B: p.B, Sum: p.Sum}, {A: p.A, B: free, Sum: p.Sum}}, []int{p.B}, []api.Wound{{Kind: 2, At: free}, {Kind: 2, Index: 1, At: p.B}, {Kind: 2, Id: 1, Index: 1, At: free, Healed: true}}},
	} {
		d := whole.Clone()
		erase(t, d, small(), x.hurt...)
		o.Pages = x.l
		runs(t, x.say, d, o, wounded(x.want...))
	}
}

func TestStripes(t *testing.T) { // 24.1: by their Ids, and the members of each
	for _, g := range []api.Geom{small(), wide()} {
		whole, o := grown(t, g)
		for i, x := range o.State.Stripes {
			for index := range x.At {
				var want []api.Wound
				for j := range g.M { // as many as there is parity for, all round
					want = append(want, member(o, i, (index+j)%len(x.At)))
				}
				d := whole.Clone()
				for j, w := range want {
					if j%2 == 0 {
						erase(t, d, g, w.At)
					} else {
						is(t, "Garble", d.Garble(sector(g, w.At, 0), 500, 1), api.OK)
					}
				}
				runs(t, "some", d, o, wounded(damage.Sort(healed(want...))...))
				if d.Bytes() != whole.Bytes() || d.Writes() != whole.Writes()+g.M<<g.Shift || len(d.Bad()) > 0 {
					t.Fatalf("%d sectors are written, %v are bad", d.Writes()-whole.Writes(), d.Bad())
				}
				sound(t, "some", d, o)
				again(t, "some", d, o, api.Report{})
			}
		}
	}
}

func TestLost(t *testing.T) { // 24.1: what does not come back is open, and lost
	d, o := grown(t, small())
	erase(t, d, small(), o.State.Stripes[0].At[0], o.State.Stripes[0].At[1]) // of which one is now's, too
	erase(t, d, small(), o.State.Stripes[1].At[2])                           // that one comes back
	erase(t, d, small(), o.State.Stripes[2].At[0], o.State.Stripes[2].At[2])
	open := []api.Wound{member(o, 0, 0), member(o, 0, 1), member(o, 2, 0), member(o, 2, 2)}
	gone := slices.Concat(lost(-1, 0, 1, 4, 5), lost(1, 0, 2, 4, 5))
	runs(t, "some", d, o, api.Report{Wounds: damage.Sort(append(healed(member(o, 1, 2)), open...)), Lost: gone})
	again(t, "some", d, o, api.Report{Wounds: open, Lost: gone})

	d, o = grown(t, bare()) // without parity nothing comes back
	erase(t, d, bare(), o.State.Stripes[1].At[2])
	again(t, "bare", d, o, api.Report{Wounds: []api.Wound{member(o, 1, 2)}, Lost: slices.Concat(lost(-1, 5, 6), lost(1, 5, 6))})

	d, o = grown(t, wide())
	x := o.State.Stripes[1].At
	erase(t, d, wide(), x[0], x[2], x[4])
	open = []api.Wound{member(o, 1, 0), member(o, 1, 2), member(o, 1, 4)}
	gone = slices.Concat(lost(-1, 3, 4, 5, 6), lost(1, 3, 4, 5, 6))
	again(t, "wide", d, o, api.Report{Wounds: open, Lost: gone})
}

func TestOtherBytes(t *testing.T) { // 24.1: what comes back as other bytes is not written
	d, o := grown(t, small())
	at := o.State.Stripes[2].At
	is(t, "Garble", d.Garble(at[1], 0, 0x05ec76f1), api.OK) // it has the sum that it had
	is(t, "Garble", d.Garble(at[1], 4, 1), api.OK)
	runs(t, "no wound", d, o, api.Report{})
	erase(t, d, small(), at[0])
	again(t, "data", d, o, api.Report{Wounds: []api.Wound{member(o, 2, 0)}, Lost: slices.Concat(lost(-1, 4, 5), lost(1, 4, 5))})
	is(t, "Write", d.Write(at[0], some(1, 5*512)[4*512:]), api.OK)
	runs(t, "that was written", d, o, api.Report{})
	erase(t, d, small(), at[2])
	again(t, "parity", d, o, wounded(member(o, 2, 2)))
}

func TestInOrder(t *testing.T) { // 24.1: slots, pages, stripes, sorted; each by what it has
	d, o := grown(t, small())
	whole := d.Bytes()
	last := len(o.State.Stripes) - 1
	want := healed(slot(0), slot(1), page(o, 0, 1), page(o, 1, 0), page(o, 2, 0), member(o, 0, 2), member(o, 1, 0), member(o, last, 1))
	for i := range want {
		erase(t, d, small(), want[(i*3+1)%len(want)].At)
	}
	runs(t, "all", d, o, wounded(want...))
	if d.Bytes() != whole || len(d.Bad()) > 0 {
		t.Errorf("%v are bad", d.Bad())
	}
	sound(t, "all", d, o)
	again(t, "all", d, o, api.Report{})
}

func TestUnsettled(t *testing.T) { // 24.1: a state that is right need not be settled
	d, o := grown(t, small())
	o.State = plain(o.State)
	l := o.State.Now.Tables[0].L
	l[0], l[1] = api.Entry{Kind: api.EntryFresh, Fresh: 1}, api.Entry{}
	o.State.Snaps = nil
	erase(t, d, small(), o.State.Stripes[0].At[1]) // nothing refers to it
	runs(t, "one", d, o, wounded(healed(member(o, 0, 1))...))
	erase(t, d, small(), o.State.Stripes[0].At...)
	again(t, "all of it", d, o, wounded(member(o, 0, 0), member(o, 0, 1), member(o, 0, 2)))
}

// wounds are all kinds of them, and the sectors that a run writes for them, in its order.
func wounds(t *testing.T) (*dev.Dev, api.Opened, []int) {
	t.Helper()
	d, o := grown(t, wide())
	g := wide()
	erase(t, d, g, o.Pages[1].B, o.State.Stripes[0].At[3], o.State.Stripes[0].At[1], o.State.Stripes[2].At[0])
	is(t, "Garble", d.Garble(0, 9, 9), api.OK)
	is(t, "Erase", d.Erase(1), api.OK)
	l := []int{0, 1}
	for _, at := range []int{o.Pages[1].B, o.State.Stripes[0].At[1], o.State.Stripes[0].At[3], o.State.Stripes[2].At[0]} {
		l = append(l, sector(g, at, 0), sector(g, at, 1))
	}
	return d, o, l
}

func TestCutOff(t *testing.T) { // 24.1: the first error; what is ahead of it is written, and not sure
	whole, o, l := wounds(t)
	for fuse := range len(l) + 1 {
		d := whole.Clone()
		d.Fuse(fuse)
		fails(t, "cut off", d, o, api.ErrDown)
		d.Fuse(-1)
		if got := d.Waiting(); !slices.Equal(got, slices.Sorted(slices.Values(l[:fuse]))) || d.Bytes() != whole.Bytes() || !d.Down() {
			t.Errorf("behind %d writes %v wait", fuse, got)
		}
		fails(t, "down", d, o, api.ErrDown)
		d.Crash(slices.Repeat([]bool{true}, fuse)...)
		if _, err := scrub.Run(d, o); err != api.OK {
			t.Errorf("behind a crash Run = %d", err)
		}
		sound(t, "behind a crash", d, o)
	}
	d := whole.Clone()
	d.Fuse(len(l) + 1)
	got, err := scrub.Run(d, o)
	if len(got.Wounds) != 6 || damage.Open(got) > 0 || len(got.Lost) > 0 || err != api.OK || len(d.Waiting()) > 0 {
		t.Errorf("Run = %v, %d", got, err)
	}
	sound(t, "all", d, o)
	d.Fuse(0)
	fails(t, "nothing to be written, but a flush", d, o, api.ErrDown)
}

func TestSmallDevice(t *testing.T) { // 24.1: what the device does not have can't be written
	whole, o := grown(t, small())
	one, err := dev.Load(whole.Bytes()[:512])
	is(t, "Load", err, api.OK)
	fails(t, "no slot 1", one, o, api.ErrRange)
	for _, n := range []int{2, 12, 24, 25, 26} {
		d, err := dev.Load(whole.Bytes()[:n*512])
		is(t, "Load", err, api.OK)
		bytes := d.Bytes()
		found, _, err := check.Of(d, o)
		is(t, "Of", err, api.OK)
		if len(found.Wounds) == 0 {
			t.Errorf("of %d sectors there is no wound", n)
		}
		again(t, "small", d, o, found)
		if d.Bytes() != bytes || d.Writes() > 0 {
			t.Errorf("of %d sectors %d were written", n, d.Writes())
		}
	}
}

func TestWrong(t *testing.T) { // 24.1: ErrForm, ahead of ErrDown
	wrong := map[string]func(o *api.Opened){
		"nothing":                 func(o *api.Opened) { *o = api.Opened{} },
		"no generation":           func(o *api.Opened) { o.Super.Gen = 0 },
		"a length too great":      func(o *api.Opened) { o.Super.Length = api.MaxBlob + 1 },
		"a root in a slot":        func(o *api.Opened) { o.Super.Root.A = 1 },
		"a root nowhere":          func(o *api.Opened) { o.Super.Root.B = 80 },
		"no geometry":             func(o *api.Opened) { o.Super.Geom = api.Geom{} },
		"another geometry":        func(o *api.Opened) { o.Super.Geom.M = 2 },
		"fewer data":              func(o *api.Opened) { o.Super.Geom.K, o.Super.Geom.M = 1, 2 },
		"greater clusters":        func(o *api.Opened) { o.Super.Geom.Shift = 1 },
		"fewer clusters":          func(o *api.Opened) { o.Super.Geom.Clusters, o.Super.Root = 12, api.Ptr{A: 2, B: 3} },
		"too many blocks":         func(o *api.Opened) { o.State.Now.Blocks = api.MaxBlocks + 1 },
		"no such kind":            func(o *api.Opened) { o.State.Now.Tables[0].L[3].Kind = 3 },
		"no such member":          func(o *api.Opened) { o.State.Now.Tables[0].L[3].Place.Member = 2 },
		"a stripe less":           func(o *api.Opened) { o.State.Stripes = o.State.Stripes[:3] },
		"a snapshot's block":      func(o *api.Opened) { o.State.Snaps[0].Chart.Tables[0].L[0].Place.Stripe = 9 },
		"too small a next stripe": func(o *api.Opened) { o.State.NextStripe = 3 },
		"too small a next one":    func(o *api.Opened) { o.State.NextSnap = 1 },
		"stripes that fall":       func(o *api.Opened) { slices.Reverse(o.State.Stripes) },
		"a cluster twice":         func(o *api.Opened) { o.State.Stripes[0].At[0] = o.State.Stripes[1].At[0] },
	}
	d, o := grown(t, small())
	erase(t, d, small(), 0, o.Pages[0].A, o.State.Stripes[0].At[0])
	is(t, "Write", d.Write(79, strings.Repeat("w", 512)), api.OK)
	dead := d.Clone()
	down(t, dead)
	writes, waiting := d.Writes(), d.Waiting()
	for say, change := range wrong {
		x := plain(o)
		change(&x)
		fails(t, say, d, x, api.ErrForm)
		fails(t, say+", and down", dead, x, api.ErrForm)
	}
	fails(t, "down", dead, o, api.ErrDown)
	if d.Writes() != writes || !slices.Equal(d.Waiting(), waiting) {
		t.Errorf("%d sectors are written, %v wait", d.Writes()-writes, d.Waiting())
	}
	o.Use = nil // which clusters are used is nobody's question here
	runs(t, "without a use", d, o, wounded(healed(slot(0), page(o, 0, 0), member(o, 0, 0))...))
	o.Pages, o.State = nil, api.State{Now: api.Chart{Blocks: 7}}
	fails(t, "down, and nothing to be healed", dead, o, api.ErrDown)
	runs(t, "nothing to be healed", d, o, api.Report{})
}

func TestNewMemory(t *testing.T) { // 24.1: of what is answered nothing is kept
	d, o := grown(t, small())
	erase(t, d, small(), o.State.Stripes[0].At...)
	given := plain(o)
	one, err := scrub.Run(d, o)
	is(t, "Run", err, api.OK)
	want := plain(one)
	clear(one.Wounds)
	clear(one.Lost)
	if !same(o, given) {
		t.Error("what was handed in is changed")
	}
	runs(t, "once more", d, o, want)
}

// hurt damages so many sectors of d, by chance; the slots, too.
func hurt(d *dev.Dev, many int, next func(n int) int) {
	for range many {
		at := next(d.Sectors())
		if next(2) == 0 {
			d.Erase(at)
		} else {
			d.Garble(at, next(509), uint32(1+next(1<<20)))
		}
	}
}

// byHand is what a run does, step by step, as the chapter's words say it.
func byHand(t *testing.T, d *dev.Dev, o api.Opened) api.Report {
	t.Helper()
	var all []api.Wound
	l, err := super.Heal(d, o.Super)
	is(t, "super.Heal", err, api.OK)
	for _, c := range l {
		all = append(all, api.Wound{Kind: api.WoundSlot, Id: c.At, At: c.At, Healed: c.Healed})
	}
	g := o.Super.Geom
	for id, p := range o.Pages {
		l, err := pages.Heal(d, g, []api.Ptr{p})
		is(t, "pages.Heal", err, api.OK)
		for _, c := range l {
			w := page(o, id, slices.Index([]int{p.A, p.B}, c.At))
			w.Healed = c.Healed
			all = append(all, w)
		}
	}
	for i, x := range o.State.Stripes {
		l, err := stripe.Heal(d, g, x)
		is(t, "stripe.Heal", err, api.OK)
		for _, c := range l {
			w := member(o, i, slices.Index(x.At, c.At))
			w.Healed = c.Healed
			all = append(all, w)
		}
	}
	is(t, "Flush", d.Flush(), api.OK)
	gone, err := check.Lost(d, o)
	is(t, "Lost", err, api.OK)
	return api.Report{Wounds: all, Lost: gone}
}

func TestByHand(t *testing.T) { // 24.1: the same, step by step
	open, shut := 0, 0
	for seed := range 60 {
		g := []api.Geom{small(), wide(), bare()}[seed%3]
		d, o := grown(t, g)
		next := draw(uint64(seed))
		hurt(d, next(geom.Sectors(g)), next)
		found, _, err := check.Of(d, o)
		is(t, "Of", err, api.OK)
		twin := d.Clone()
		want := byHand(t, twin, o)
		runs(t, "by chance", d, o, want)
		if d.Bytes() != twin.Bytes() || d.Writes() != twin.Writes() || !slices.Equal(d.Bad(), twin.Bad()) {
			t.Fatalf("%d sectors are written, not %d", d.Writes(), twin.Writes())
		}
		n := damage.Open(want)
		open, shut = open+n, shut+len(want.Wounds)-n
		for i, w := range want.Wounds { // what a look finds, but not healed
			w.Healed = false
			if len(found.Wounds) != len(want.Wounds) || found.Wounds[i] != w {
				t.Fatalf("there was %v, not %v", found.Wounds, want.Wounds)
			}
		}
		left := slices.DeleteFunc(slices.Clone(want.Wounds), func(w api.Wound) bool { return w.Healed })
		got, is, err := check.Of(d, o)
		if !same(got, api.Report{Wounds: left, Lost: want.Lost}) || is != (n == 0) || err != api.OK {
			t.Fatalf("then there is %v, %v, %d", got, is, err)
		}
		again(t, "by chance", d, o, got)
	}
	if open < 100 || shut < 100 {
		t.Errorf("%d wounds were open, %d were healed", open, shut)
	}
}

func TestAsGoodAsNew(t *testing.T) { // 24.2: at most M members of each stripe, and one copy of each page
	for seed := range 60 {
		g := []api.Geom{small(), wide(), {Shift: 2, K: 1, M: 3, Clusters: 60}}[seed%3]
		whole, o := grown(t, g)
		d, next, many := whole.Clone(), draw(uint64(seed)), 0
		spoil := func(cluster int) {
			many++
			at := sector(g, cluster, next(1<<g.Shift))
			if next(2) == 0 {
				is(t, "Erase", d.Erase(at), api.OK)
			} else {
				is(t, "Garble", d.Garble(at, next(509), uint32(1+next(1<<20))), api.OK)
			}
		}
		for slot := range 2 {
			if next(2) == 0 {
				is(t, "Erase", d.Erase(slot), api.OK)
				many++
			}
		}
		for _, p := range o.Pages {
			if n := next(3); n < 2 {
				spoil([]int{p.A, p.B}[n])
			}
		}
		for _, x := range o.State.Stripes {
			n := next(g.M + 1)
			first := next(len(x.At))
			for i := range n {
				spoil(x.At[(first+i)%len(x.At)])
			}
		}
		got, err := scrub.Run(d, o)
		if len(got.Wounds) != many || damage.Open(got) > 0 || len(got.Lost) > 0 || err != api.OK {
			t.Fatalf("of %d wounds Run = %v, %d", many, got, err)
		}
		if d.Bytes() != whole.Bytes() || len(d.Bad()) > 0 {
			t.Fatalf("%v are bad", d.Bad())
		}
		d.Crash() // all of it is sure
		sound(t, "healed", d, o)
		again(t, "healed", d, o, api.Report{})
	}
}
