package world_test

import (
	"math"
	"slices"
	"strings"
	"testing"

	"caulk/api"
	"caulk/check"
	"caulk/dev"
	"caulk/geom"
	"caulk/image"
	"caulk/rebuild"
	"caulk/scrub"
	"caulk/world"
)

func TestNew(t *testing.T) { // 28.1
	for _, g := range []api.Geom{small(), wide(), bare(), {K: 1, Clusters: api.MinClusters}, {Shift: api.MaxShift, K: 1, M: 1, Clusters: 256}, {K: 3, M: 2, Clusters: api.MaxClusters}} {
		for _, blocks := range []int{0, 1, 100, api.MaxBlocks} {
			w := made(t, g, blocks)
			d, err := dev.New(geom.Sectors(g))
			is(t, "dev.New", err, api.OK)
			m, err := image.New(d, g, blocks)
			is(t, "image.New", err, api.OK)
			alike(t, "New", w, d, m)
			if !w.Opens() || w.Dev().Sectors() != g.Clusters<<g.Shift || w.Image().Size() != int64(blocks*geom.Size(g)) || w.Image().Geom() != g {
				t.Errorf("New of %v: %d sectors, %d bytes", g, w.Dev().Sectors(), w.Image().Size())
			}
		}
	}
}

func TestNewWrong(t *testing.T) { // 28.1: ErrForm, and image.New's errors
	wrong := func(c api.Setup, want api.Errno) {
		t.Helper()
		if w, err := world.New(c); w != nil || err != want {
			t.Errorf("New(%v) = %v, %d, not %d", c, w, err, want)
		}
	}
	for _, blocks := range []int{10, -1, math.MaxInt} { // ErrForm is ahead of the rest
		for _, g := range []api.Geom{
			{}, {K: 1, Clusters: api.MinClusters - 1}, {K: 1, Clusters: api.MaxClusters + 1}, {Shift: -1, K: 1, Clusters: 10}, {Shift: api.MaxShift + 1, K: 1, Clusters: 10},
			{Shift: api.MaxShift, K: 1, Clusters: 257}, {M: 1, Clusters: 10}, {K: 1, M: -1, Clusters: 10}, {K: 200, M: 56, Clusters: 1000}, {K: math.MaxInt, M: math.MaxInt, Clusters: math.MaxInt},
		} {
			wrong(api.Setup{Geom: g, Blocks: blocks}, api.ErrForm)
		}
	}
	for _, blocks := range []int{-1, math.MinInt, api.MaxBlocks + 1, math.MaxInt} {
		wrong(api.Setup{Geom: small(), Blocks: blocks}, api.ErrRange)
	}
}

func TestKinds(t *testing.T) { // 28.2: no such kind
	w := grown(t, small())
	was := seen(w.Dev(), w.Image())
	for _, kind := range []api.DeedKind{api.DeedNone, api.DeedCount, api.DeedCount + 1, math.MaxUint8} {
		fails(t, w, api.Deed{Kind: kind}, api.ErrForm)
		fails(t, w, api.Deed{Kind: kind, A: 1, B: 1, N: 1, Text: "a"}, api.ErrForm)
	}
	if !same(seen(w.Dev(), w.Image()), was) {
		t.Errorf("no such deed changed something")
	}
	w = none(t)
	fails(t, w, only(api.DeedNone), api.ErrForm)
	fails(t, w, only(api.DeedCount), api.ErrForm)
}

// none is a world whose superblocks are garbled, and that has no image.
func none(t *testing.T) *world.World {
	t.Helper()
	w := grown(t, small())
	well(t, w, garble(0, 5, 77), garble(1, 0, 1))
	fails(t, w, crash(0), api.ErrNone)
	if w.Opens() || w.Image() != nil {
		t.Fatalf("there is an image")
	}
	return w
}

func TestNoImage(t *testing.T) { // 28.1, 28.2: ErrNone of a guest's deed, and of a compaction
	w := none(t)
	for _, d := range guests() {
		fails(t, w, d, api.ErrNone)
		d.A, d.B, d.N, d.Text = -1, -1, -1, "" // whatever they are
		fails(t, w, d, api.ErrNone)
	}
	fails(t, w, only(api.DeedScrub), api.ErrNone) // of load.Open
	fails(t, w, only(api.DeedRebuild), api.ErrNone)
	fails(t, w, only(api.DeedCheck), api.ErrNone)
	well(t, w, fuse(3), erase(9), garble(8, 0, 1), garble(8, 0, 1), fuse(-1))
	fails(t, w, crash(-1), api.ErrNone)
	well(t, w, garble(1, 0, 1)) // the superblock is there again, but the image is opened by a crash or a rebuild alone
	fails(t, w, read(0, 1), api.ErrNone)
	well(t, w, crash(0))
	does(t, w, read(0, 3072), api.Told{Text: some(1, 512) + some(3, 1024) + some(1, 3072)[1536:]})
}

func TestGuest(t *testing.T) { // 28.2: each of the guest's deeds
	w, a := grown(t, small()), some(1, 6*512)
	does(t, w, read(0, 700), api.Told{Text: a[:512] + some(3, 188)})
	does(t, w, old(0, 0, 3072), api.Told{Text: a})
	well(t, w, write(100, "hello"), write(100*512, ""))
	does(t, w, read(99, 7), api.Told{Text: a[99:100] + "hello" + a[105:106]})
	does(t, w, snap("second"), api.Told{N: 1})
	well(t, w, api.Deed{Kind: api.DeedZero, A: 101, B: 3})
	does(t, w, read(100, 5), api.Told{Text: "h\x00\x00\x00o"})
	does(t, w, old(1, 100, 5), api.Told{Text: "hello"})
	well(t, w, api.Deed{Kind: api.DeedDiscard, A: 1, B: 1023})
	does(t, w, read(511, 3), api.Told{Text: a[511:512] + "\x00\x00"})
	well(t, w, api.Deed{Kind: api.DeedRevert, N: 1})
	does(t, w, read(511, 3), api.Told{Text: a[511:512] + some(3, 2)})
	well(t, w, api.Deed{Kind: api.DeedDelete, N: 0})
	fails(t, w, old(0, 0, 1), api.ErrNone)
	well(t, w, api.Deed{Kind: api.DeedResize, N: 2})
	fails(t, w, read(1000, 25), api.ErrRange)
	does(t, w, read(1000, 24), api.Told{Text: some(3, 512)[488:]})
	if w.Image().Gen() != 3 || w.Image().Dirty() == 0 {
		t.Errorf("Gen = %d, Dirty = %d", w.Image().Gen(), w.Image().Dirty())
	}
	well(t, w, only(api.DeedFlush))
	if w.Image().Gen() != 4 || w.Image().Dirty() != 0 || w.Image().Size() != 1024 {
		t.Errorf("Gen = %d, Dirty = %d", w.Image().Gen(), w.Image().Dirty())
	}
}

func TestGuestWrong(t *testing.T) { // 28.2: the image's errors, and nothing beside them
	w := grown(t, small())
	for _, x := range []struct {
		d    api.Deed
		want api.Errno
	}{
		{read(-1, 1), api.ErrRange}, {read(0, -1), api.ErrRange}, {read(51200, 1), api.ErrRange}, {read(math.MaxInt, math.MaxInt), api.ErrRange},
		{write(51199, "ab"), api.ErrRange}, {write(-1, ""), api.ErrRange}, {write(0, strings.Repeat("a", api.MaxRead+1)), api.ErrLong}, {read(0, api.MaxRead+1), api.ErrLong},
		{api.Deed{Kind: api.DeedZero, A: 51199, B: 2}, api.ErrRange}, {api.Deed{Kind: api.DeedDiscard, A: 0, B: 51201}, api.ErrRange},
		{api.Deed{Kind: api.DeedResize, N: -1}, api.ErrRange}, {api.Deed{Kind: api.DeedResize, N: api.MaxBlocks + 1}, api.ErrRange},
		{snap(""), api.ErrForm}, {snap(strings.Repeat("a", api.MaxName+1)), api.ErrForm}, {snap("first"), api.ErrTwice},
		{api.Deed{Kind: api.DeedDelete, N: 1}, api.ErrNone}, {api.Deed{Kind: api.DeedRevert, N: -1}, api.ErrNone},
		{old(1, 0, 1), api.ErrNone}, {old(0, 51200, 1), api.ErrRange}, {old(0, 0, math.MinInt), api.ErrRange},
	} {
		fails(t, w, x.d, x.want)
	}
	fails(t, made(t, small(), 10), read(0, 5121), api.ErrRange)
}

func TestFull(t *testing.T) { // 28.2: a flush for which there is no room
	w := made(t, api.Geom{K: 2, M: 1, Clusters: 20}, 100)
	well(t, w, write(0, some(1, 20*512)))
	fails(t, w, only(api.DeedFlush), api.ErrSpace)
	well(t, w, api.Deed{Kind: api.DeedDiscard, A: 1024, B: 20*512 - 1024}, only(api.DeedFlush))
	does(t, w, read(0, 1030), api.Told{Text: some(1, 1024) + strings.Repeat("\x00", 6)})
}

func TestFuse(t *testing.T) { // 28.2: the device's fuse
	w := grown(t, small())
	well(t, w, write(0, "abc"), fuse(0))
	fails(t, w, only(api.DeedFlush), api.ErrDown)
	if !w.Dev().Down() || !w.Opens() || !w.Image().Broken() {
		t.Errorf("the device is not down, or the image not broken")
	}
	for _, d := range append(guests(), only(api.DeedScrub), only(api.DeedCheck)) {
		fails(t, w, d, api.ErrDown)
	}
	if !w.Opens() {
		t.Errorf("there is no image any more")
	}
	well(t, w, fuse(-1))
	fails(t, w, read(0, 1), api.ErrDown) // it is down all the same
	well(t, w, crash(0), write(0, "abc"), fuse(1000), only(api.DeedFlush))
	before := w.Dev().Writes()
	well(t, w, fuse(5), write(0, "abc"))
	fails(t, w, only(api.DeedFlush), api.ErrDown)
	if w.Dev().Writes() != before+5 {
		t.Errorf("%d writes are taken, not 5", w.Dev().Writes()-before)
	}
}

// cut is a world whose flush of many blocks is cut off behind n writes, which wait.
func cut(t *testing.T, n int) *world.World {
	t.Helper()
	w := grown(t, small())
	well(t, w, write(0, some(7, 60*512)), fuse(n))
	fails(t, w, only(api.DeedFlush), api.ErrDown)
	return w
}

func TestCrash(t *testing.T) { // 28.2: which sectors are kept
	for _, n := range []int{0, 1, 2, 63, 64, 65, 90} {
		for _, a := range []int64{0, 1, 2, 3, 5, 1 << 40, 1<<62 | 1<<31, math.MinInt64, math.MaxInt64, -1, -2, 0x5555555555555555} {
			w := cut(t, n)
			twin, waiting := w.Dev().Clone(), w.Dev().Waiting()
			if len(waiting) != n {
				t.Fatalf("%d wait, not %d", len(waiting), n)
			}
			var keep []bool
			for i := range waiting {
				keep = append(keep, i < 64 && a&(1<<i) != 0)
			}
			twin.Crash(keep...)
			m, err := image.Open(twin)
			is(t, "Open", err, api.OK)
			well(t, w, crash(a))
			alike(t, "a crash", w, twin, m)
			if w.Image().Gen() != 3 || w.Image().Dirty() != 0 || w.Image().Broken() {
				t.Fatalf("behind a crash: Gen = %d, Dirty = %d, Broken = %v", w.Image().Gen(), w.Image().Dirty(), w.Image().Broken())
			}
			does(t, w, old(0, 0, 3072), api.Told{Text: some(1, 3072)})
			well(t, w, write(0, "more"), only(api.DeedFlush)) // it has no fuse any more
		}
	}
}

func TestCrashUp(t *testing.T) { // 28.2: a crash of a device that is up; what is not committed is lost
	w := grown(t, small())
	was := w.Image()
	well(t, w, write(0, "gone"), fuse(3), erase(0), crash(-1))
	if w.Image() == was || w.Image().Dirty() != 0 || len(w.Dev().Bad()) != 0 {
		t.Errorf("Dirty = %d, Bad = %v", w.Image().Dirty(), w.Dev().Bad())
	}
	does(t, w, read(0, 4), api.Told{Text: some(1, 4)})
	well(t, w, write(0, "there"), only(api.DeedFlush))
	well(t, w, crash(0))
	does(t, w, read(0, 5), api.Told{Text: "there"})
}

func TestCrashLost(t *testing.T) { // 28.2: image.Open's error, and no image
	w := grown(t, wide())
	was := w.Image().Pages()[0]
	well(t, w, erase(was.A<<1), erase(was.B<<1|1))
	does(t, w, read(0, 1), api.Told{Text: some(1, 1)}) // the image has its pages
	fails(t, w, crash(0), api.ErrDamaged)
	if w.Opens() || w.Image() != nil || w.Dev() == nil {
		t.Errorf("there is an image of damaged pages")
	}
	fails(t, w, only(api.DeedScrub), api.ErrDamaged)
	fails(t, w, only(api.DeedRebuild), api.ErrDamaged)
	fails(t, w, only(api.DeedCheck), api.ErrDamaged)
	fails(t, w, only(api.DeedFlush), api.ErrNone)
}

func TestErase(t *testing.T) { // 28.2
	w := grown(t, small())
	for _, n := range []int{-1, 200, math.MinInt, math.MaxInt, 1 << 32} {
		fails(t, w, erase(n), api.ErrRange)
	}
	well(t, w, erase(199), erase(3), erase(0), erase(3))
	if l := w.Dev().Bad(); !slices.Equal(l, []int{0, 3, 199}) {
		t.Errorf("Bad = %v", l)
	}
}

func TestGarble(t *testing.T) { // 28.2: A is from 0 to Sector, of B the lowest 32 bits
	w := grown(t, small())
	was := w.Dev().Bytes()
	for _, n := range []int{-1, 200, math.MaxInt} {
		for _, a := range []int64{-1, 0, 512, 513} {
			fails(t, w, garble(n, a, 1), api.ErrRange)
		}
	}
	for _, a := range []int64{-1, -4, 509, 511, 512, 513, 1 << 32, 1<<32 + 4, 1<<32 - 1, math.MinInt64, math.MaxInt64, math.MinInt64 + 4} {
		fails(t, w, garble(3, a, 1), api.ErrRange)
	}
	if w.Dev().Bytes() != was {
		t.Errorf("a garbling with an error changes bytes")
	}
	for _, x := range []struct {
		n    int
		a, b int64
		by   string
	}{
		{0, 0, 1, "\x01\x00\x00\x00"}, {199, 508, 0x04030201, "\x01\x02\x03\x04"}, {5, 100, -1, "\xff\xff\xff\xff"}, {6, 1, 1 << 32, "\x00\x00\x00\x00"},
		{7, 2, 7<<32 | 0x80000000, "\x00\x00\x00\x80"}, {8, 9, math.MinInt64, "\x00\x00\x00\x00"}, {8, 9, math.MaxInt64, "\xff\xff\xff\xff"}, {9, 507, 0, "\x00\x00\x00\x00"},
	} {
		want := []byte(w.Dev().Bytes())
		for i := range 4 {
			want[x.n*512+int(x.a)+i] ^= x.by[i]
		}
		well(t, w, garble(x.n, x.a, x.b))
		if w.Dev().Bytes() != string(want) {
			t.Errorf("garble %d %d %d: other bytes", x.n, x.a, x.b)
		}
	}
}

// hurt erases a superblock, a copy of a page, and a member of a stripe, and answers these as wounds.
func hurt(t *testing.T, w *world.World) []api.Wound {
	t.Helper()
	g, page, x := w.Image().Geom(), w.Image().Pages()[0], w.Image().State().Stripes[1]
	well(t, w, erase(1), erase(page.B<<g.Shift), erase(x.At[1]<<g.Shift))
	return []api.Wound{
		{Kind: api.WoundSlot, Id: 1, At: 1}, {Kind: api.WoundPage, Id: 0, Index: 1, At: page.B}, {Kind: api.WoundStripe, Id: x.Id, Index: 1, At: x.At[1]},
	}
}

// healed is l, all of them healed.
func healed(l []api.Wound) []api.Wound {
	l = slices.Clone(l)
	for i := range l {
		l[i].Healed = true
	}
	return l
}

func TestScrub(t *testing.T) { // 28.2: a scrub's report; the image stays
	for _, g := range []api.Geom{small(), wide()} {
		w := grown(t, g)
		well(t, w, write(0, "fresh"))
		was, wounds := w.Image(), hurt(t, w)
		does(t, w, only(api.DeedCheck), api.Told{Report: api.Report{Wounds: wounds}})
		does(t, w, only(api.DeedScrub), api.Told{Report: api.Report{Wounds: healed(wounds)}})
		well(t, w, only(api.DeedScrub))
		does(t, w, only(api.DeedCheck), api.Told{N: 1})
		if w.Image() != was || was.Dirty() != 1 || len(w.Dev().Waiting()) != 0 {
			t.Errorf("a scrub changes the image")
		}
		does(t, w, read(0, 6), api.Told{Text: "fresh" + some(1, 6)[5:]})
		well(t, w, only(api.DeedFlush))
	}
	w := grown(t, small())
	lost := lose(t, w)
	does(t, w, only(api.DeedScrub), api.Told{Report: api.Report{Wounds: stripeWounds(w, 1, false), Lost: lost}})
}

// lose erases the second stripe, and answers what is lost by that.
func lose(t *testing.T, w *world.World) []api.Lost {
	t.Helper()
	for _, at := range w.Image().State().Stripes[1].At {
		well(t, w, erase(at<<w.Image().Geom().Shift))
	}
	l, err := check.Lost(w.Dev(), opened(t, w.Dev()))
	is(t, "Lost", err, api.OK)
	if len(l) == 0 {
		t.Fatalf("nothing is lost")
	}
	return l
}

// stripeWounds are all members of the stripe at the place i.
func stripeWounds(w *world.World, i int, healed bool) []api.Wound {
	x := w.Image().State().Stripes[i]
	var l []api.Wound
	for j, at := range x.At {
		l = append(l, api.Wound{Kind: api.WoundStripe, Id: x.Id, Index: j, At: at, Healed: healed})
	}
	return l
}

func TestScrubErrors(t *testing.T) { // 28.2: load.Open's errors, and the scrub's
	w := cut(t, 4)
	fails(t, w, only(api.DeedScrub), api.ErrDown)
	w = grown(t, small())
	hurt(t, w)
	well(t, w, fuse(1))
	fails(t, w, only(api.DeedScrub), api.ErrDown) // cut off on its way
	if !w.Dev().Down() {
		t.Errorf("the device is up")
	}
}

func TestCheck(t *testing.T) { // 28.2: N is 1, if it is sound; nothing is changed
	w := grown(t, wide())
	well(t, w, write(0, "fresh"))
	was := seen(w.Dev(), w.Image())
	does(t, w, only(api.DeedCheck), api.Told{N: 1})
	if !same(seen(w.Dev(), w.Image()), was) {
		t.Errorf("a check changes something")
	}
	wounds, lost := hurt(t, w), lose(t, w)
	r, sound, err := check.Look(w.Dev())
	if len(r.Wounds) <= len(wounds) || !same(r.Lost, lost) || sound || err != api.OK {
		t.Fatalf("Look = %v, %v, %d", r, sound, err)
	}
	does(t, w, only(api.DeedCheck), api.Told{Report: r})
}

func TestRebuild(t *testing.T) { // 28.2: a rebuild's report; then the image is what the device has
	for _, g := range []api.Geom{small(), wide(), bare()} {
		w := grown(t, g)
		well(t, w, write(0, "fresh"), erase(0))
		was, lost := w.Image(), lose(t, w)
		twin := w.Dev().Clone()
		r, _, err := rebuild.Run(twin)
		is(t, "Run", err, api.OK)
		m, err := image.Open(twin)
		is(t, "Open", err, api.OK)
		does(t, w, only(api.DeedRebuild), api.Told{Report: r})
		alike(t, "a rebuild", w, twin, m)
		if !same(r.Lost, lost) || w.Image() == was || w.Image().Gen() != 4 || w.Image().Dirty() != 0 {
			t.Errorf("lost: %v, Gen = %d, Dirty = %d", r.Lost, w.Image().Gen(), w.Image().Dirty())
		}
		does(t, w, read(0, 5), api.Told{Text: some(1, 5)})
	}
	w := grown(t, small())
	well(t, w, write(0, "fresh"))
	wounds := hurt(t, w)
	does(t, w, only(api.DeedRebuild), api.Told{Report: api.Report{Wounds: healed(wounds)}})
	does(t, w, read(0, 5), api.Told{Text: some(1, 5)}) // what was fresh is gone, even if nothing is lost
	if w.Image().Gen() != 3 {
		t.Errorf("Gen = %d", w.Image().Gen())
	}
	does(t, w, only(api.DeedCheck), api.Told{N: 1})
}

func TestRebuildNone(t *testing.T) { // 28.2: behind a rebuild with an error there is no image that does not open
	w := cut(t, 4)
	fails(t, w, only(api.DeedRebuild), api.ErrDown)
	if w.Opens() {
		t.Errorf("there is an image, though the device is down")
	}
	fails(t, w, read(0, 1), api.ErrNone)
	well(t, w, crash(0))
	if !w.Opens() {
		t.Errorf("there is no image behind a crash")
	}
	w = grown(t, small())
	well(t, w, garble(0, 0, 1), garble(1, 0, 1)) // the image is open still
	does(t, w, read(0, 1), api.Told{Text: some(1, 1)})
	fails(t, w, only(api.DeedRebuild), api.ErrNone)
	if w.Opens() {
		t.Errorf("there is an image without superblocks")
	}
	well(t, w, garble(0, 0, 1))
	does(t, w, only(api.DeedRebuild), api.Told{Report: api.Report{Wounds: []api.Wound{{Kind: api.WoundSlot, Id: 1, At: 1, Healed: true}}}})
	if !w.Opens() {
		t.Errorf("there is no image behind a rebuild")
	}
}

func TestRebuildCutOff(t *testing.T) { // 28.2: the report beside the error, as the rebuild answers it
	w := grown(t, small())
	lost := lose(t, w)
	well(t, w, fuse(4))
	does(t, w, only(api.DeedRebuild), api.Told{Err: api.ErrDown, Report: api.Report{Wounds: stripeWounds(w, 1, false), Lost: lost}})
	if w.Opens() {
		t.Errorf("there is an image, though the device is down")
	}
}

func TestRebuildFull(t *testing.T) { // 28.2: a rebuild with an error, behind which the container opens
	w := made(t, api.Geom{K: 1, Clusters: 12}, 10)
	well(t, w, write(0, some(1, 1024)), only(api.DeedFlush)) // there is no room for other pages now
	was := w.Image()
	wounds := stripeWounds(w, 0, false)
	well(t, w, erase(wounds[0].At))
	lost, err := check.Lost(w.Dev(), opened(t, w.Dev()))
	is(t, "Lost", err, api.OK)
	does(t, w, only(api.DeedRebuild), api.Told{Err: api.ErrSpace, Report: api.Report{Wounds: wounds, Lost: lost}})
	if !w.Opens() || w.Image() == was {
		t.Errorf("the image is not what was opened")
	}
	fails(t, w, read(0, 1), api.ErrDamaged)
}

func TestCompact(t *testing.T) { // 28.2: how many fewer stripes
	w := made(t, small(), 20)
	for i := range 4 {
		well(t, w, write(i*512, some(i, 512)), only(api.DeedFlush))
	}
	does(t, w, only(api.DeedCompact), api.Told{N: 2})
	well(t, w, only(api.DeedCompact))
	for i := range 4 {
		does(t, w, read(i*512, 512), api.Told{Text: some(i, 512)})
	}
	well(t, w, write(512, some(9, 512)), write(1024, some(9, 512)), only(api.DeedFlush), fuse(3))
	fails(t, w, only(api.DeedCompact), api.ErrDown)
}

func TestNobody(t *testing.T) { // a world that New did not make has nothing, and never panics
	for _, w := range []*world.World{nil, {}} {
		for range 2 {
			if w.Opens() || w.Image() != nil || w.Dev() != nil {
				t.Errorf("there is something")
			}
			for kind := range api.DeedCount + 2 {
				for _, n := range []int{-1, 0, 5} {
					got := w.Do(api.Deed{Kind: kind, A: int64(n), B: int64(n), N: n, Text: "a"})
					if got.Err == api.OK && kind != api.DeedFuse || got.Text != "" || got.N != 0 || len(got.Report.Wounds)+len(got.Report.Lost) != 0 {
						t.Errorf("Do of the kind %d = %v", kind, got)
					}
				}
			}
		}
	}
}

func TestScrubTwin(t *testing.T) { // 28.2: a scrub, step by step
	w := grown(t, wide())
	hurt(t, w)
	lose(t, w)
	twin := w.Dev().Clone()
	r, err := scrub.Run(twin, opened(t, twin))
	is(t, "Run", err, api.OK)
	does(t, w, only(api.DeedScrub), api.Told{Report: r})
	alike(t, "a scrub", w, twin, w.Image())
}
