package check_test

import (
	"math"
	"slices"
	"strings"
	"testing"

	"caulk/api"
	"caulk/check"
	"caulk/dev"
	"caulk/geom"
	"caulk/image"
	"caulk/load"
	"caulk/pages"
	"caulk/stripe"
	"caulk/super"
)

func TestSound(t *testing.T) { // 23.1: of what is whole there is nothing to be told
	for _, g := range []api.Geom{small(), wide(), bare(), {K: 1, M: 0, Clusters: api.MinClusters}, {Shift: 7, K: 2, M: 2, Clusters: 256}} {
		for _, blocks := range []int{0, 1, api.MaxBlocks} {
			d := blank(t, geom.Sectors(g))
			o, err := load.Format(d, g, blocks)
			is(t, "Format", err, api.OK)
			finds(t, "laid", d, o, api.Report{}, true)
			looks(t, d, api.Report{}, true)
		}
	}
	for _, g := range []api.Geom{small(), wide(), bare()} {
		d, o := grown(t, g)
		finds(t, "grown", d, o, api.Report{}, true)
		looks(t, d, api.Report{}, true)
	}
}

// looks ends a test, if Look answers anything but this.
func looks(t *testing.T, d *dev.Dev, want api.Report, sound bool) {
	t.Helper()
	got, is, err := check.Look(d)
	if !same(got, want) || is != sound || err != api.OK {
		t.Fatalf("Look = %v, %v, %d, not %v, %v", got, is, err, want, sound)
	}
}

// slot, page and member are wounds that are not healed.
func slot(n int) api.Wound {
	return api.Wound{Kind: api.WoundSlot, Id: n, At: n}
}

func page(o api.Opened, id, index int) api.Wound {
	return api.Wound{Kind: api.WoundPage, Id: id, Index: index, At: []int{o.Pages[id].A, o.Pages[id].B}[index]}
}

func member(o api.Opened, i, index int) api.Wound {
	x := o.State.Stripes[i]
	return api.Wound{Kind: api.WoundStripe, Id: x.Id, Index: index, At: x.At[index]}
}

// lost is ranges of a map: From, To, From, To ..
func lost(chart int, l ...int) []api.Lost {
	var all []api.Lost
	for i := 0; i < len(l); i += 2 {
		all = append(all, api.Lost{Chart: chart, Blocks: api.Range{From: l[i], To: l[i+1]}})
	}
	return all
}

// wounded is a report of wounds alone.
func wounded(l ...api.Wound) api.Report {
	return api.Report{Wounds: l}
}

func TestSlots(t *testing.T) { // 23.1: can't be read, or is not the bytes of its superblock
	for _, x := range []struct {
		say  string
		hurt func(d *dev.Dev, s api.Super) api.Errno
		want []api.Wound
	}{
		{"the slot 0 erased", func(d *dev.Dev, s api.Super) api.Errno { return d.Erase(0) }, []api.Wound{slot(0)}},
		{"the slot 1 erased", func(d *dev.Dev, s api.Super) api.Errno { return d.Erase(1) }, []api.Wound{slot(1)}},
		{"both erased", func(d *dev.Dev, s api.Super) api.Errno { return d.Erase(1) + d.Erase(0) }, []api.Wound{slot(0), slot(1)}},
		{"the first byte garbled", func(d *dev.Dev, s api.Super) api.Errno { return d.Garble(0, 0, 1) }, []api.Wound{slot(0)}},
		{"the last byte garbled", func(d *dev.Dev, s api.Super) api.Errno { return d.Garble(1, 508, 1<<31) }, []api.Wound{slot(1)}},
		{"an older one", func(d *dev.Dev, s api.Super) api.Errno { s.Gen--; return super.Write(d, 1, s) }, []api.Wound{slot(1)}},
		{"a newer one", func(d *dev.Dev, s api.Super) api.Errno { s.Gen++; return super.Write(d, 0, s) }, []api.Wound{slot(0)}},
		{"another root", func(d *dev.Dev, s api.Super) api.Errno { s.Root.Sum++; return super.Write(d, 0, s) }, []api.Wound{slot(0)}},
		{"the same once more", func(d *dev.Dev, s api.Super) api.Errno { return super.Write(d, 0, s) }, nil},
		{"erased, and it waits", func(d *dev.Dev, s api.Super) api.Errno { return d.Erase(0) + super.Write(d, 0, s) }, nil},
		{"whole, and another waits", func(d *dev.Dev, s api.Super) api.Errno { return d.Write(1, strings.Repeat("w", 512)) }, []api.Wound{slot(1)}},
	} {
		for _, g := range []api.Geom{small(), wide()} {
			d, o := grown(t, g)
			is(t, x.say, x.hurt(d, o.Super), api.OK)
			finds(t, x.say, d, o, wounded(x.want...), len(x.want) == 0)
		}
	}
	d, o := grown(t, small())
	was := o
	was.Super.Gen-- // of what was opened, whatever stands there
	finds(t, "of an older one", d, was, wounded(slot(0), slot(1)), false)
}

func TestPages(t *testing.T) { // 23.1: by their place, A ahead of B
	for _, g := range []api.Geom{small(), wide()} {
		whole, o := grown(t, g)
		if len(o.Pages) < 3 {
			t.Fatalf("there are %d pages", len(o.Pages))
		}
		for id := range o.Pages {
			for i := range 1 << g.Shift {
				a, b := page(o, id, 0), page(o, id, 1)
				d := whole.Clone()
				is(t, "Erase", d.Erase(sector(g, a.At, i)), api.OK)
				finds(t, "A erased", d, o, wounded(a), false)
				looks(t, d, wounded(a), false)
				is(t, "Garble", d.Garble(sector(g, b.At, i), 300, 0x100), api.OK)
				finds(t, "both", d, o, wounded(a, b), false)
				if _, _, err := check.Look(d); err != api.ErrDamaged {
					t.Errorf("Look = %d", err)
				}
				is(t, "Garble", d.Garble(sector(g, b.At, i), 300, 0x100), api.OK)
				finds(t, "A alone again", d, o, wounded(a), false)
				d = whole.Clone()
				is(t, "Erase", d.Erase(sector(g, b.At, i)), api.OK)
				finds(t, "B erased", d, o, wounded(b), false)
				looks(t, d, wounded(b), false)
			}
		}
	}
}

func TestPagesByHand(t *testing.T) { // 23.1: whatever what was opened says
	d, o := grown(t, small())
	o.Pages = nil
	finds(t, "none", d, o, api.Report{}, true)
	_, kin := grown(t, small())
	free := 79
	ptr := kin.Pages[0]
	o.Pages = []api.Ptr{
		ptr, ptr, {A: ptr.A, B: ptr.A, Sum: ptr.Sum}, {A: ptr.B, B: ptr.A, Sum: ptr.Sum}, // as good as others
		{A: free, B: free, Sum: 1}, {A: ptr.A, B: ptr.B, Sum: ptr.Sum + 1}, {A: -1, B: ptr.A, Sum: ptr.Sum},
		{A: ptr.B, B: 80, Sum: ptr.Sum}, {A: math.MinInt, B: math.MaxInt}, {A: 1<<32 + ptr.A, B: ptr.B, Sum: ptr.Sum},
	}
	want := []api.Wound{page(o, 4, 0), page(o, 4, 1), page(o, 5, 0), page(o, 5, 1), page(o, 6, 0), page(o, 7, 1), page(o, 8, 0), page(o, 8, 1), page(o, 9, 0)}
	finds(t, "by hand", d, o, wounded(want...), false)
}

func TestStripes(t *testing.T) { // 23.1: by their Ids, and the members of each
	for _, g := range []api.Geom{small(), wide(), bare()} {
		whole, o := grown(t, g)
		for i, x := range o.State.Stripes {
			for index, at := range x.At {
				for j := range 1 << g.Shift {
					for _, hurt := range []func(d *dev.Dev) api.Errno{
						func(d *dev.Dev) api.Errno { return d.Erase(sector(g, at, j)) },
						func(d *dev.Dev) api.Errno { return d.Garble(sector(g, at, j), 0, 1) },
						func(d *dev.Dev) api.Errno { return d.Garble(sector(g, at, j), 508, 1<<31) },
					} {
						d := whole.Clone()
						is(t, "a member", hurt(d), api.OK)
						got, sound, err := check.Of(d, o)
						if !slices.Equal(got.Wounds, []api.Wound{member(o, i, index)}) || sound || err != api.OK {
							t.Fatalf("Of = %v, %v, %d", got, sound, err)
						}
						if g.M > 0 && len(got.Lost) > 0 {
							t.Fatalf("%v is lost", got.Lost)
						}
					}
				}
			}
		}
	}
}

func TestWoundsInOrder(t *testing.T) { // 23.1: slots, pages, stripes; none is healed
	d, o := grown(t, small())
	want := []api.Wound{
		slot(0), slot(1), page(o, 0, 1), page(o, 1, 0), page(o, 1, 1), page(o, 5, 0),
		member(o, 0, 2), member(o, 1, 0), member(o, 2, 2), member(o, 4, 1), // which stands ahead of all the others
	}
	for i := range want {
		erase(t, d, small(), want[(i*7+3)%len(want)].At)
	}
	finds(t, "all", d, o, wounded(want...), false)
}

func TestLost(t *testing.T) { // 23.1: of each map, the one of now ahead; merged
	for _, x := range []struct {
		say  string
		hurt [][2]int // stripes, and their members
		want []api.Lost
	}{
		{"one that comes back", [][2]int{{0, 0}}, nil},
		{"one of each", [][2]int{{0, 0}, {1, 1}, {2, 2}, {3, 0}, {4, 1}}, nil},
		{"in both maps", [][2]int{{2, 0}, {2, 1}}, slices.Concat(lost(-1, 4, 6), lost(3, 4, 6))},
		{"data and parity", [][2]int{{2, 0}, {2, 2}}, slices.Concat(lost(-1, 4, 5), lost(3, 4, 5))},
		{"one of now alone", [][2]int{{4, 1}, {4, 2}}, lost(-1, 2, 3)},
		{"one of the snapshot alone", [][2]int{{1, 0}, {1, 2}}, lost(3, 2, 3)},
		{"one that is in both, and one that is not", [][2]int{{0, 0}, {0, 1}}, slices.Concat(lost(-1, 0, 1), lost(3, 0, 2))},
		{"over a table's end", [][2]int{{3, 0}, {3, 1}}, slices.Concat(lost(-1, 63, 65), lost(3, 63, 65))},
		{"of two stripes", [][2]int{{0, 0}, {0, 2}, {1, 1}, {1, 2}, {4, 0}, {4, 2}}, slices.Concat(lost(-1, 0, 2, 3, 4), lost(3, 0, 1, 3, 4))},
		{"side by side", [][2]int{{0, 1}, {0, 2}, {1, 0}, {1, 1}, {2, 0}, {2, 1}, {2, 2}}, slices.Concat(lost(-1, 3, 6), lost(3, 1, 6))},
		{"all", [][2]int{{0, 0}, {0, 1}, {1, 0}, {1, 1}, {2, 0}, {2, 1}, {3, 0}, {3, 1}, {4, 0}, {4, 1}}, slices.Concat(lost(-1, 0, 6, 63, 65), lost(3, 0, 6, 63, 65))},
	} {
		d, o := grown(t, small())
		want := api.Report{Lost: x.want}
		for _, at := range x.hurt {
			want.Wounds = append(want.Wounds, member(o, at[0], at[1]))
			erase(t, d, small(), member(o, at[0], at[1]).At)
		}
		finds(t, x.say, d, o, want, false)
		looks(t, d, want, false)
	}
}

func TestLostOfOthers(t *testing.T) { // 23.1: as many members as there is parity for, and one more
	d, o := grown(t, wide())
	x := o.State.Stripes[0] // of the blocks 0, 1 and 2, of which the last two are the snapshot's alone
	erase(t, d, wide(), x.At[1], x.At[2])
	finds(t, "two", d, o, wounded(member(o, 0, 1), member(o, 0, 2)), false)
	erase(t, d, wide(), x.At[4])
	finds(t, "three", d, o, api.Report{Wounds: []api.Wound{member(o, 0, 1), member(o, 0, 2), member(o, 0, 4)}, Lost: lost(3, 1, 3)}, false)
	erase(t, d, wide(), x.At[0])
	want := api.Report{Wounds: []api.Wound{member(o, 0, 0), member(o, 0, 1), member(o, 0, 2), member(o, 0, 4)}, Lost: slices.Concat(lost(-1, 0, 1), lost(3, 0, 3))}
	finds(t, "four", d, o, want, false)

	d, o = grown(t, bare()) // without parity one is enough
	erase(t, d, bare(), o.State.Stripes[1].At[0])
	finds(t, "one", d, o, api.Report{Wounds: []api.Wound{member(o, 1, 0)}, Lost: slices.Concat(lost(-1, 3, 4), lost(3, 3, 4))}, false)
}

func TestSnaps(t *testing.T) { // 23.1: each by its Id, in order
	d, o := grown(t, small())
	x := o.State.Snaps[0]
	o.State.Snaps = []api.Snap{{Id: 0, Name: "zero", Chart: o.State.Now}, {Id: 2, Name: "two", Chart: api.Chart{Blocks: 7}}, x}
	erase(t, d, small(), o.State.Stripes[4].At...)
	erase(t, d, small(), o.State.Stripes[0].At...)
	want := slices.Concat(lost(-1, 0, 3), lost(0, 0, 3), lost(3, 0, 2))
	wounds := []api.Wound{member(o, 0, 0), member(o, 0, 1), member(o, 0, 2), member(o, 4, 0), member(o, 4, 1), member(o, 4, 2)}
	finds(t, "three", d, o, api.Report{Wounds: wounds, Lost: want}, false)
}

func TestUnsettled(t *testing.T) { // 23.1: a state that is right need not be settled; what is fresh is not lost, and what nothing refers to is looked at all the same
	d, o := grown(t, small())
	o.State = plain(o.State)
	t0 := o.State.Now.Tables[0].L
	t0[4], t0[5] = api.Entry{Kind: api.EntryFresh, Fresh: 1}, api.Entry{}
	o.State.Snaps = nil
	finds(t, "whole", d, o, api.Report{}, true)
	erase(t, d, small(), o.State.Stripes[2].At...)
	wounds := []api.Wound{member(o, 2, 0), member(o, 2, 1), member(o, 2, 2)}
	finds(t, "no entry refers to it", d, o, wounded(wounds...), false)
	o.State.Stripes = slices.Delete(o.State.Stripes, 2, 3)
	finds(t, "it is none of them", d, o, api.Report{}, true)
	erase(t, d, small(), o.State.Stripes[0].At...)
	wounds = []api.Wound{member(o, 0, 0), member(o, 0, 1), member(o, 0, 2)}
	finds(t, "the first one, of which what is fresh is not", d, o, api.Report{Wounds: wounds, Lost: lost(-1, 0, 1)}, false)
	t0[0] = api.Entry{Kind: api.EntryFresh, Fresh: 2}
	finds(t, "fresh as well", d, o, wounded(wounds...), false)
	o.State.Stripes = o.State.Stripes[1:]
	finds(t, "there is no first one", d, o, api.Report{}, true)
}

func TestFits(t *testing.T) { // 23.1: sound, if the members fit together, too
	for _, g := range []api.Geom{small(), wide()} {
		for i := range 3 {
			whole, o := grown(t, g)
			o.State = plain(o.State)
			x := o.State.Stripes[i]
			for index := range x.At { // a member of other bytes, that has their sum
				d := whole.Clone()
				odd := o
				odd.State = plain(o.State)
				data := make([]string, g.K)
				for k := range data {
					data[k] = some(index+90, geom.Size(g))
				}
				kin, pieces, err := stripe.Make(g, x.Id, x.At, data...)
				is(t, "Make", err, api.OK)
				for j := range 1 << g.Shift {
					is(t, "Write", d.Write(sector(g, x.At[index], j), pieces[index][j*512:][:512]), api.OK)
				}
				finds(t, "by its sum it is bad", d, o, wounded(member(o, i, index)), false)
				odd.State.Stripes[i].Sums[index] = kin.Sums[index]
				finds(t, "it does not fit", d, odd, api.Report{}, false)
				finds(t, "it fits", whole, o, api.Report{}, true)
			}
		}
	}
	d, o := grown(t, bare()) // without parity all fit
	x := o.State.Stripes[1]
	is(t, "Write", d.Write(x.At[1], some(5, 512)), api.OK)
	kin, _, err := stripe.Make(bare(), 1, x.At, some(5, 512), some(5, 512))
	is(t, "Make", err, api.OK)
	x.Sums[1] = kin.Sums[1]
	finds(t, "no parity", d, o, api.Report{}, true)
}

func TestSameSum(t *testing.T) { // 23.1: what is garbled, and has the sum that it had, is no wound, but not sound
	d, o := grown(t, small())
	at := o.State.Stripes[1].At[2]
	was := d.Bytes()
	is(t, "Garble", d.Garble(at, 100, 0x05ec76f1), api.OK)
	is(t, "Garble", d.Garble(at, 104, 1), api.OK)
	if d.Bytes() == was {
		t.Fatal("nothing is garbled")
	}
	finds(t, "garbled", d, o, api.Report{}, false)
	looks(t, d, api.Report{}, false)
}

func TestOtherBytes(t *testing.T) { // 23.1: a member that comes back as other bytes is lost, though enough of the others are there
	d, o := grown(t, small())
	is(t, "Garble", d.Garble(o.State.Stripes[2].At[1], 0, 0x05ec76f1), api.OK)
	is(t, "Garble", d.Garble(o.State.Stripes[2].At[1], 4, 1), api.OK)
	erase(t, d, small(), o.State.Stripes[2].At[0])
	finds(t, "one of the others is another one", d, o, api.Report{Wounds: []api.Wound{member(o, 2, 0)}, Lost: slices.Concat(lost(-1, 4, 5), lost(3, 4, 5))}, false)
}

func TestSmallDevice(t *testing.T) { // 23.1: what the device does not have can't be read
	d, o := grown(t, small())
	whole := d.Bytes()
	for _, n := range []int{1, 2, 12, 25, 26, 36, 37} {
		d, err := dev.Load(whole[:n*512])
		is(t, "Load", err, api.OK)
		var want []api.Wound
		if n < 2 {
			want = append(want, slot(1))
		}
		for id := range o.Pages {
			for index := range 2 {
				if w := page(o, id, index); w.At >= n {
					want = append(want, w)
				}
			}
		}
		for i, x := range o.State.Stripes {
			for index, at := range x.At {
				if at >= n {
					want = append(want, member(o, i, index))
				}
			}
		}
		got, sound, err := check.Of(d, o)
		if !slices.Equal(got.Wounds, want) || sound != (len(want) == 0) || err != api.OK {
			t.Errorf("of %d sectors Of = %v, %v, %d, not %v", n, got, sound, err, want)
		}
	}
}

func TestWrong(t *testing.T) { // 23.1: ErrForm, ahead of ErrDown
	wrong := map[string]func(o *api.Opened){
		"nothing":                 func(o *api.Opened) { *o = api.Opened{} },
		"no generation":           func(o *api.Opened) { o.Super.Gen = 0 },
		"a generation too great":  func(o *api.Opened) { o.Super.Gen = api.MaxGen + 1 },
		"a length below 0":        func(o *api.Opened) { o.Super.Length = -1 },
		"a length too great":      func(o *api.Opened) { o.Super.Length = api.MaxBlob + 1 },
		"a root in a slot":        func(o *api.Opened) { o.Super.Root.A = 1 },
		"a root nowhere":          func(o *api.Opened) { o.Super.Root.B = 80 },
		"no geometry":             func(o *api.Opened) { o.Super.Geom = api.Geom{} },
		"another geometry":        func(o *api.Opened) { o.Super.Geom.M = 2 },
		"fewer data":              func(o *api.Opened) { o.Super.Geom.K, o.Super.Geom.M = 1, 2 },
		"greater clusters":        func(o *api.Opened) { o.Super.Geom.Shift = 1 },
		"fewer clusters":          func(o *api.Opened) { o.Super.Geom.Clusters, o.Super.Root = 20, api.Ptr{A: 2, B: 3} },
		"too many blocks":         func(o *api.Opened) { o.State.Now.Blocks = api.MaxBlocks + 1 },
		"fewer blocks":            func(o *api.Opened) { o.State.Now.Blocks = 64 },
		"no such kind":            func(o *api.Opened) { o.State.Now.Tables[0].L[3].Kind = 3 },
		"no such member":          func(o *api.Opened) { o.State.Now.Tables[0].L[3].Place.Member = 2 },
		"no such stripe":          func(o *api.Opened) { o.State.Now.Tables[0].L[3].Place.Stripe = 5 },
		"a stripe less":           func(o *api.Opened) { o.State.Stripes = o.State.Stripes[:4] },
		"a snapshot without name": func(o *api.Opened) { o.State.Snaps[0].Name = "" },
		"a snapshot's block":      func(o *api.Opened) { o.State.Snaps[0].Chart.Tables[1].L[0].Place.Stripe = 9 },
		"a snapshot below 0":      func(o *api.Opened) { o.State.Snaps[0].Id = -1 },
		"too small a next stripe": func(o *api.Opened) { o.State.NextStripe = 4 },
		"too small a next one":    func(o *api.Opened) { o.State.NextSnap = 3 },
		"stripes that fall":       func(o *api.Opened) { slices.Reverse(o.State.Stripes) },
		"a cluster twice":         func(o *api.Opened) { o.State.Stripes[0].At[0] = o.State.Stripes[1].At[0] },
		"a stripe in a slot":      func(o *api.Opened) { o.State.Stripes[0].At[0] = 1 },
		"a sum less":              func(o *api.Opened) { o.State.Stripes[0].Sums = o.State.Stripes[0].Sums[:2] },
	}
	d, o := grown(t, small())
	dead := d.Clone()
	down(t, dead)
	for say, change := range wrong {
		x := plain(o)
		change(&x)
		fails(t, say, d, x, api.ErrForm)
		fails(t, say+", and down", dead, x, api.ErrForm)
	}
	finds(t, "as it was", d, o, api.Report{}, true)
	o.Use = nil // which clusters are used is nobody's question here
	finds(t, "without a use", d, o, api.Report{}, true)
	fails(t, "down", dead, o, api.ErrDown)
}

func TestDown(t *testing.T) { // 23.1: ErrDown, also if nothing has to be read
	d := blank(t, 80)
	o, err := load.Format(d, small(), 0)
	is(t, "Format", err, api.OK)
	o.Pages = nil
	down(t, d)
	fails(t, "down", d, o, api.ErrDown)
	d.Crash()
	finds(t, "up again", d, o, api.Report{}, true)
}

func TestLookWrong(t *testing.T) { // 23.1: load.Open's error
	wrong := func(say string, d *dev.Dev, want api.Errno) {
		t.Helper()
		if got, sound, err := check.Look(d); got.Wounds != nil || got.Lost != nil || sound || err != want {
			t.Errorf("%s: Look = %v, %v, %d, not %d", say, got, sound, err, want)
		}
	}
	wrong("a blank device", blank(t, 80), api.ErrNone)
	wrong("a sector", blank(t, 1), api.ErrNone)
	d, o := grown(t, small())
	dead := d.Clone()
	down(t, dead)
	wrong("down", dead, api.ErrDown)
	small, err := dev.Load(d.Bytes()[:79*512])
	is(t, "Load", err, api.OK)
	wrong("too small a device", small, api.ErrNone)
	root := d.Clone()
	root.Erase(o.Super.Root.A)
	root.Garble(o.Super.Root.B, 0, 1)
	wrong("no root", root, api.ErrDamaged)
	d.Erase(0)
	d.Erase(1)
	wrong("no superblock", d, api.ErrNone)
}

func TestLookNewest(t *testing.T) { // 23.1: Of of what was opened, which is the greatest generation
	d := blank(t, 80)
	m, err := image.New(d, small(), 10)
	is(t, "New", err, api.OK)
	for i := range 2 {
		is(t, "Write", m.Write(0, some(i, 512)), api.OK)
		is(t, "Flush", m.Flush(), api.OK)
	}
	o := opened(t, d)
	o.Super.Gen--
	is(t, "Write", super.Write(d, 0, o.Super), api.OK)
	looks(t, d, wounded(slot(0)), false)
	o.Super.Gen += 2
	is(t, "Write", super.Write(d, 1, o.Super), api.OK)
	looks(t, d, wounded(slot(0)), false)
	is(t, "Write", super.Write(d, 0, o.Super), api.OK)
	looks(t, d, api.Report{}, true)
}

func TestNothingIsWritten(t *testing.T) { // 23.3
	for _, g := range []api.Geom{small(), wide()} {
		d, o := grown(t, g)
		is(t, "Write", d.Write(sector(g, g.Clusters-1, 0), some(3, 512)), api.OK) // it waits, all the while
		is(t, "Write", d.Write(sector(g, o.Pages[0].B, 0), some(4, 512)), api.OK)
		is(t, "Garble", d.Garble(1, 3, 9), api.OK)
		erase(t, d, g, o.Pages[1].A, o.State.Stripes[0].At[0])
		erase(t, d, g, o.State.Stripes[1].At[:g.M+1]...)
		d.Fuse(0) // the least that was written would have it be down
		was, given := d.Clone(), plain(o)
		for range 2 {
			first, sound, err := check.Of(d, o)
			if len(first.Wounds) != 5+g.M || len(first.Lost) == 0 || sound || err != api.OK {
				t.Errorf("Of = %v, %v, %d", first, sound, err)
			}
			lost, err := check.Lost(d, o)
			if !same(lost, first.Lost) || err != api.OK {
				t.Errorf("Lost = %v, %d", lost, err)
			}
			all, _, err := check.Look(d)
			if !same(all, first) || err != api.OK {
				t.Errorf("Look = %v, %d", all, err)
			}
		}
		if d.Bytes() != was.Bytes() || d.Writes() != was.Writes() || !slices.Equal(d.Waiting(), was.Waiting()) || !slices.Equal(d.Bad(), was.Bad()) || d.Down() {
			t.Errorf("%d sectors were written, %v wait, %v are bad", d.Writes()-was.Writes(), d.Waiting(), d.Bad())
		}
		for _, at := range d.Waiting() {
			now, _ := d.Read(at)
			if then, _ := was.Read(at); now != then {
				t.Errorf("the sector %d has other bytes", at)
			}
		}
		if !same(o, given) {
			t.Error("what was handed in is changed")
		}
	}
}

func TestNewMemory(t *testing.T) { // 23.2
	d, o := grown(t, small())
	erase(t, d, small(), 0, o.State.Stripes[0].At[0], o.State.Stripes[0].At[1])
	given := plain(o)
	one, _, err := check.Of(d, o)
	is(t, "Of", err, api.OK)
	two, _, err := check.Of(d, o)
	is(t, "Of", err, api.OK)
	three, err := check.Lost(d, o)
	is(t, "Lost", err, api.OK)
	want := plain(two)
	clear(one.Wounds)
	clear(one.Lost)
	clear(three)
	if !same(two, want) || !same(o, given) {
		t.Error("answers share memory")
	}
	finds(t, "once more", d, o, want, false)
}

// hurt damages so many sectors of d, by chance.
func hurt(d *dev.Dev, many int, next func(n int) int) {
	for range many {
		at := 2 + next(d.Sectors()-2)
		if next(2) == 0 {
			d.Erase(at)
		} else {
			d.Garble(at, next(509), uint32(1+next(1<<20)))
		}
	}
}

func TestWhatIsLost(t *testing.T) { // 23.4: a block is in a lost range just if it can't be read
	gone, there := 0, 0
	for seed := range 60 {
		g := []api.Geom{small(), wide(), bare()}[seed%3]
		d, o := grown(t, g)
		m, err := image.Open(d)
		is(t, "Open", err, api.OK)
		next := draw(uint64(seed))
		hurt(d, next(geom.Sectors(g)/2), next)
		report, _, err := check.Of(d, o)
		is(t, "Of", err, api.OK)
		in := map[[2]int]bool{}
		for _, l := range report.Lost {
			for b := l.Blocks.From; b < l.Blocks.To; b++ {
				in[[2]int{l.Chart, b}] = true
			}
		}
		size := int64(geom.Size(g))
		for _, chart := range []int{-1, 3} {
			for b := range 100 {
				read := m.Read
				if chart >= 0 {
					read = func(off, n int64) (string, api.Errno) { return m.ReadSnap(chart, off, n) }
				}
				_, err := read(int64(b)*size, size)
				if in[[2]int{chart, b}] != (err == api.ErrDamaged) || err != api.OK && err != api.ErrDamaged {
					t.Fatalf("of %d the block %d is read with %d; lost are %v", chart, b, err, report.Lost)
				}
				if err == api.OK {
					there++
				} else {
					gone++
				}
			}
		}
		again, err := check.Lost(d, o) // what was read is written, if it came back
		if !same(again, report.Lost) || err != api.OK {
			t.Fatalf("Lost = %v, %d, not %v", again, err, report.Lost)
		}
	}
	if gone < 100 || there < 100 {
		t.Errorf("%d blocks were lost, %d were not", gone, there)
	}
}

// byHand is the wounds of o, one cluster after the other, as the chapter's words say it.
func byHand(t *testing.T, d *dev.Dev, o api.Opened) []api.Wound {
	t.Helper()
	var all []api.Wound
	bytes, err := super.Bytes(o.Super)
	is(t, "Bytes", err, api.OK)
	for i := range 2 {
		if s, err := d.Read(i); err != api.OK || s != bytes {
			all = append(all, slot(i))
		}
	}
	for id, p := range o.Pages {
		bad, err := pages.Heal(d.Clone(), o.Super.Geom, []api.Ptr{p})
		is(t, "Heal", err, api.OK)
		for index := range 2 {
			w := page(o, id, index)
			if slices.ContainsFunc(bad, func(c api.Copy) bool { return c.At == w.At }) {
				all = append(all, w)
			}
		}
	}
	for i, x := range o.State.Stripes {
		bad, err := stripe.Heal(d.Clone(), o.Super.Geom, x)
		is(t, "Heal", err, api.OK)
		for index := range x.At {
			w := member(o, i, index)
			if slices.ContainsFunc(bad, func(c api.Copy) bool { return c.At == w.At }) {
				all = append(all, w)
			}
		}
	}
	return all
}

func TestWoundsByHand(t *testing.T) { // 23.1: all of them, and nothing else
	for seed := range 60 {
		g := []api.Geom{small(), wide(), bare()}[seed%3]
		d, o := grown(t, g)
		next := draw(uint64(1000 + seed))
		hurt(d, next(geom.Sectors(g)), next)
		if next(3) == 0 {
			d.Garble(next(2), next(509), 1)
		}
		report, sound, err := check.Of(d, o)
		want := byHand(t, d, o)
		if !slices.Equal(report.Wounds, want) || sound != (len(want) == 0) || err != api.OK {
			t.Fatalf("Of = %v, %v, %d, not %v", report.Wounds, sound, err, want)
		}
	}
}

func TestManyMaps(t *testing.T) { // 23.1: it ends soon, however many blocks refer to a member that is bad
	g := api.Geom{K: 100, M: 100, Clusters: 220}
	d := blank(t, geom.Sectors(g))
	var data []string
	for i := range g.K {
		data = append(data, some(i, 512))
	}
	var at []int
	for i := range g.K + g.M {
		at = append(at, 2+i)
	}
	x, pieces, err := stripe.Make(g, 0, at, data...)
	is(t, "Make", err, api.OK)
	is(t, "Write", stripe.Write(d, g, x, pieces), api.OK)
	o := api.Opened{
		Super: api.Super{Gen: 1, Geom: g, Root: api.Ptr{A: 210, B: 211}},
		State: api.State{Stripes: []api.Stripe{x}, NextStripe: 1, NextSnap: api.MaxSnaps},
	}
	for s := range 2 {
		is(t, "Write", super.Write(d, s, o.Super), api.OK)
	}
	is(t, "Flush", d.Flush(), api.OK)
	c := api.Chart{Blocks: api.MaxBlocks}
	for i := range api.MaxBlocks / 64 {
		table := api.Table{At: i, L: make([]api.Entry, 64)}
		for j := range table.L {
			table.L[j] = api.Entry{Kind: api.EntryDisk, Place: api.Place{Member: (i*64 + j) % 50}}
		}
		c.Tables = append(c.Tables, table)
	}
	o.State.Now = c
	for i := range 3 {
		o.State.Snaps = append(o.State.Snaps, api.Snap{Id: i, Name: some(i, 9), Chart: c})
	}
	finds(t, "whole", d, o, api.Report{}, true)
	var wounds []api.Wound
	for i := range g.M {
		erase(t, d, g, x.At[i])
		wounds = append(wounds, member(o, 0, i))
	}
	finds(t, "as many as there is parity for", d, o, wounded(wounds...), false)
	erase(t, d, g, x.At[150])
	wounds = append(wounds, member(o, 0, 150))
	want := api.Report{Wounds: wounds}
	for id := -1; id < 3; id++ {
		want.Lost = append(want.Lost, lost(id, 0, api.MaxBlocks)...)
	}
	finds(t, "one more", d, o, want, false)
}
