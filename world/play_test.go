package world_test

import (
	"maps"
	"slices"
	"strconv"
	"testing"

	"caulk/api"
	"caulk/check"
	"caulk/compact"
	"caulk/dev"
	"caulk/geom"
	"caulk/image"
	"caulk/load"
	"caulk/rebuild"
	"caulk/scrub"
	"caulk/world"
)

// twin is what a world has, by hand.
type twin struct {
	d *dev.Dev
	m *image.Image
}

// begin is a twin of a new world.
func begin(t *testing.T, g api.Geom, blocks int) *twin {
	t.Helper()
	d, err := dev.New(geom.Sectors(g))
	is(t, "dev.New", err, api.OK)
	m, err := image.New(d, g, blocks)
	is(t, "image.New", err, api.OK)
	return &twin{d, m}
}

// do is what the chapter has come of d.
func (x *twin) do(d api.Deed) (told api.Told) {
	guest := !slices.Contains([]api.DeedKind{
		api.DeedFuse, api.DeedCrash, api.DeedErase, api.DeedGarble, api.DeedScrub, api.DeedRebuild, api.DeedCheck,
	}, d.Kind)
	if guest && x.m == nil {
		return api.Told{Err: api.ErrNone}
	}
	switch d.Kind {
	case api.DeedRead:
		told.Text, told.Err = x.m.Read(d.A, d.B)
	case api.DeedWrite:
		told.Err = x.m.Write(d.A, d.Text)
	case api.DeedZero:
		told.Err = x.m.Zero(d.A, d.B)
	case api.DeedDiscard:
		told.Err = x.m.Discard(d.A, d.B)
	case api.DeedResize:
		told.Err = x.m.Resize(d.N)
	case api.DeedSnap:
		told.N, told.Err = x.m.Snapshot(d.Text)
	case api.DeedDelete:
		told.Err = x.m.Delete(d.N)
	case api.DeedRevert:
		told.Err = x.m.Revert(d.N)
	case api.DeedOld:
		told.Text, told.Err = x.m.ReadSnap(d.N, d.A, d.B)
	case api.DeedFlush:
		told.Err = x.m.Flush()
	case api.DeedCompact:
		told.N, told.Err = compact.Run(x.m)
	case api.DeedFuse:
		x.d.Fuse(d.N)
	case api.DeedErase:
		told.Err = x.d.Erase(d.N)
	default:
		told = x.befall(d)
	}
	return told
}

// befall is what the chapter has come of the other deeds.
func (x *twin) befall(d api.Deed) (told api.Told) {
	switch d.Kind {
	case api.DeedCrash:
		keep := make([]bool, 64)
		for i := range keep {
			keep[i] = d.A&(1<<i) != 0
		}
		x.d.Crash(keep...)
		x.m, told.Err = image.Open(x.d)
	case api.DeedGarble:
		told.Err = x.d.Garble(d.N, int(d.A), uint32(d.B&0xffffffff))
	case api.DeedScrub:
		o, err := load.Open(x.d)
		if told.Err = err; err == api.OK {
			told.Report, told.Err = scrub.Run(x.d, o)
		}
	case api.DeedRebuild:
		told.Report, _, told.Err = rebuild.Run(x.d)
		x.m, _ = image.Open(x.d)
	case api.DeedCheck:
		r, sound, err := check.Look(x.d)
		told.Report, told.Err = r, err
		if sound {
			told.N = 1
		}
	}
	return told
}

// chance is a deed, by chance: often, but not always, one that is right for an image of so many blocks of such a size.
func chance(below func(int) int, g api.Geom, blocks int) api.Deed {
	size := geom.Size(g)
	d := api.Deed{Kind: api.DeedKind(1 + below(int(api.DeedCount)-1))}
	if below(4) == 0 {
		d.Kind = api.DeedWrite
	}
	switch d.Kind {
	case api.DeedWrite:
		d.A, d.Text = int64(below(blocks*size)), some(below(1000), below(3*size))
	case api.DeedRead, api.DeedZero, api.DeedDiscard, api.DeedOld:
		d.A, d.B, d.N = int64(below(blocks*size)), int64(below(4*size)), below(5)
	case api.DeedSnap:
		d.Text = "snapshot " + strconv.Itoa(below(8))
	case api.DeedDelete, api.DeedRevert:
		d.N = below(5)
	case api.DeedResize:
		d.N = blocks - below(5)
	case api.DeedFuse:
		d.N = below(60) - 1
	case api.DeedCrash:
		d.A = int64(below(1<<31))<<33 | int64(below(1<<31))
	case api.DeedErase:
		d.N = below(geom.Sectors(g))
	case api.DeedGarble:
		d.N, d.A, d.B = below(geom.Sectors(g)), int64(below(509)), int64(below(1<<31))
	}
	return d
}

func TestPlay(t *testing.T) { // 28.1, 28.2: a world is a device, and an image, step by step
	seen := map[api.Errno]int{}
	for seed := range 30 {
		g := []api.Geom{small(), wide(), bare()}[seed%3]
		below := draw(uint64(seed))
		w, x := made(t, g, 30), begin(t, g, 30)
		for i := range 301 {
			d := chance(below, g, 30)
			got, want := w.Do(d), x.do(d)
			if !same(got, want) {
				t.Fatalf("Do(%s) = %s, not %s", brief(d), brief(got), brief(want))
			}
			seen[got.Err]++
			if i%3 == 0 {
				alike(t, brief(d), w, x.d, x.m)
			}
		}
	}
	for _, err := range []api.Errno{api.OK, api.ErrRange, api.ErrNone, api.ErrTwice, api.ErrDamaged, api.ErrSpace, api.ErrDown} {
		if seen[err] < 3 {
			t.Errorf("the error %d is seen %d times", err, seen[err])
		}
	}
}

// content is what is read of all maps, by their Ids; -1 is that of now.
type content map[int][]byte

// clone is c in memory of its own.
func (c content) clone() content {
	n := content{}
	for id, s := range c {
		n[id] = slices.Clone(s)
	}
	return n
}

// player plays in a world, and keeps in mind what was committed as which generation.
type player struct {
	t     *testing.T
	g     api.Geom
	w     *world.World
	size  int
	below func(int) int
	now   content
	by    map[int64]content // by the generation
	right int               // blocks that were read
	wrong int               // those that could not be
	hurt  bool              // was anything erased, or garbled?
}

// start is a player in a new world.
func start(t *testing.T, g api.Geom, seed uint64) *player {
	p := &player{t: t, g: g, w: made(t, g, 30), size: geom.Size(g), below: draw(seed), by: map[int64]content{}}
	p.now = content{-1: make([]byte, 30*p.size)}
	p.by[1] = p.now.clone()
	return p
}

// do does d, and keeps in mind what should be there then.
func (p *player) do(d api.Deed) api.Told {
	about := int64(0) // the generation of what is about to be committed
	if commits := d.Kind == api.DeedFlush || d.Kind == api.DeedCompact; commits && p.w.Opens() && !p.w.Image().Broken() {
		about = p.w.Image().Gen() + 1
		p.by[about] = p.now.clone()
	}
	told := p.w.Do(d)
	if told.Err != api.OK {
		if d.Kind == api.DeedRebuild && p.w.Opens() {
			p.again()
		}
		return told
	}
	now := p.now[-1]
	switch d.Kind {
	case api.DeedWrite:
		copy(now[d.A:], d.Text)
	case api.DeedZero:
		clear(now[d.A:][:d.B])
	case api.DeedDiscard:
		if from, to := (int(d.A)+p.size-1)/p.size*p.size, int(d.A+d.B)/p.size*p.size; from < to {
			clear(now[from:to])
		}
	case api.DeedResize:
		p.now[-1] = slices.Concat(now, make([]byte, 40*p.size))[:d.N*p.size]
		clear(p.now[-1][min(len(now), len(p.now[-1])):])
	case api.DeedSnap:
		p.now[told.N] = slices.Clone(now)
	case api.DeedDelete:
		delete(p.now, d.N)
	case api.DeedRevert:
		p.now[-1] = slices.Clone(p.now[d.N])
	case api.DeedRebuild:
		if len(told.Report.Lost) > 0 {
			p.without(told.Report.Lost)
		}
		p.again()
	case api.DeedCrash:
		p.again()
	}
	return told
}

// without keeps in mind that a rebuild committed what is there without what is lost.
func (p *player) without(l []api.Lost) {
	gen := p.w.Image().Gen()
	c := p.by[gen-1].clone()
	for _, x := range l {
		clear(c[x.Chart][x.Blocks.From*p.size : x.Blocks.To*p.size])
	}
	p.by[gen] = c
}

// again has what is read be what was committed as the generation that was opened.
func (p *player) again() {
	c, there := p.by[p.w.Image().Gen()]
	if !there {
		p.t.Fatalf("the generation %d was never committed", p.w.Image().Gen())
	}
	p.now = c.clone()
}

// look ends a test, if other bytes are read than should be there, or if bytes that are not damaged are not read.
func (p *player) look() {
	p.t.Helper()
	if !p.w.Opens() || p.w.Image().Broken() {
		return
	}
	for _, id := range slices.Sorted(maps.Keys(p.now)) {
		want := p.now[id]
		for b := 0; b < len(want); b += p.size {
			d := read(b, p.size)
			if id >= 0 {
				d = old(id, b, p.size)
			}
			told := p.w.Do(d)
			if told.Err == api.OK && told.Text == string(want[b:b+p.size]) {
				p.right++
				continue
			}
			p.wrong++
			if told.Err == api.OK || !p.hurt && told.Err != api.ErrDown {
				p.t.Fatalf("%s = %s, not %.50q", brief(d), brief(told), want[b:])
			}
		}
	}
}

// step does one thing, by chance.
func (p *player) step(harm int) {
	d := chance(p.below, p.g, 30)
	switch d.Kind {
	case api.DeedErase, api.DeedGarble:
		if p.below(100) >= harm {
			return
		}
		p.hurt = true
	case api.DeedRebuild:
		if p.w.Dev().Down() {
			return
		}
		p.do(fuse(-1)) // one that is cut off does not tell what it began with
	case api.DeedFuse:
		if p.below(3) > 0 {
			return
		}
	}
	p.do(d)
	if p.below(300) < harm {
		p.wreck()
	}
	if p.w.Dev().Down() && p.below(2) == 0 {
		p.do(chanceOf(p.below, api.DeedCrash))
	}
}

// wreck erases some members of a stripe, and often as many as can't come back.
func (p *player) wreck() {
	if !p.w.Opens() || len(p.w.Image().State().Stripes) == 0 {
		return
	}
	l := p.w.Image().State().Stripes
	p.hurt = true
	for _, at := range l[p.below(len(l))].At {
		if p.below(4) > 0 {
			p.do(erase(at<<p.g.Shift + p.below(1<<p.g.Shift)))
		}
	}
}

// chanceOf is a deed of that kind.
func chanceOf(below func(int) int, kind api.DeedKind) api.Deed {
	for {
		if d := chance(below, small(), 30); d.Kind == kind {
			return d
		}
	}
}

func TestNeverOtherBytes(t *testing.T) { // 28.3: what is read is what was written, or an error
	right, wrong := 0, 0
	for seed := range 60 {
		g := []api.Geom{small(), wide(), bare()}[seed%3]
		p := start(t, g, uint64(seed+100))
		for i := range 300 {
			p.step(seed % 4 * 10)
			if i%5 == 0 {
				p.look()
			}
		}
		right, wrong = right+p.right, wrong+p.wrong
	}
	if right < 100000 || wrong < 1000 {
		t.Errorf("%d blocks are read, %d are not", right, wrong)
	}
}

func TestEachCut(t *testing.T) { // 28.3: a flush that is cut off anywhere, whatever is kept, and whatever is erased behind that
	for _, g := range []api.Geom{small(), wide()} {
		for n := range 40 {
			for i, kept := range []int64{0, -1, 1, -2, 0x5555555555555555} {
				p := start(t, g, uint64(n))
				p.do(write(0, some(1, 5*p.size)))
				p.do(snap("one"))
				p.do(only(api.DeedFlush))
				p.do(write(2*p.size, some(2, 6*p.size)))
				p.do(fuse(n))
				cut := p.do(only(api.DeedFlush)).Err
				if cut != api.OK && cut != api.ErrDown {
					t.Fatalf("Flush = %d", cut)
				}
				p.do(erase(i % 2))
				if p.do(fuse(-1)); cut == api.OK {
					is(t, "scrub", p.do(only(api.DeedScrub)).Err, api.OK)
				}
				is(t, "crash", p.do(crash(kept)).Err, api.OK)
				if cut == api.OK && p.w.Image().Gen() != 3 {
					t.Fatalf("what was committed is gone")
				}
				p.look()
				if p.wrong > 0 {
					t.Fatalf("%d blocks can't be read", p.wrong)
				}
			}
		}
	}
}
