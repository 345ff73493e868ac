package image_test

import (
	"slices"
	"strconv"
	"testing"

	"caulk/api"
	"caulk/dev"
	"caulk/geom"
	"caulk/image"
	"caulk/pages"
	"caulk/plan"
	"caulk/refs"
	"caulk/space"
	"caulk/state"
	"caulk/stripe"
)

// chance is numbers that seem to follow no rule, the same ones each time.
type chance uint64

// below is one from 0 to n - 1.
func (c *chance) below(n int) int {
	*c = *c*6364136223846793005 + 1442695040888963407
	return int(uint64(*c) >> 33 % uint64(n))
}

// flat is an image told plainly: arrays of bytes, and copies of them.
type flat struct {
	now   []byte
	snaps []flatSnap
	next  int
}

// flatSnap is a snapshot of it.
type flatSnap struct {
	id    int
	name  string
	bytes []byte
}

// clone is f in memory of its own.
func (f flat) clone() flat {
	f.now = slices.Clone(f.now)
	f.snaps = slices.Clone(f.snaps)
	for i, x := range f.snaps {
		f.snaps[i].bytes = slices.Clone(x.bytes)
	}
	return f
}

// find is at which place the snapshot id stands; below 0, if there is none.
func (f flat) find(id int) int {
	return slices.IndexFunc(f.snaps, func(x flatSnap) bool { return x.id == id })
}

// player plays the same with an image and with arrays.
type player struct {
	t      *testing.T
	size   int
	chance chance
	d      *dev.Dev
	m      *image.Image
	flat   flat
	sure   flat // what was committed last
}

// begin is a player of an image of so many blocks.
func begin(t *testing.T, g api.Geom, blocks, seed int) *player {
	d, m := made(t, g, blocks)
	size := geom.Size(g)
	p := &player{t: t, size: size, chance: chance(seed), d: d, m: m, flat: flat{now: make([]byte, blocks*size)}}
	p.sure = p.flat.clone()
	return p
}

// part is some bytes of an array of so many, often whole blocks, at times a few behind it; and whether they are in it.
func (p *player) part(length int) (int64, int, bool) {
	off, n := p.chance.below(length+1), p.chance.below(4*p.size)
	if p.chance.below(3) == 0 {
		off -= off % p.size
	}
	if p.chance.below(3) == 0 {
		n -= n % p.size
	}
	return int64(off), n, off+n <= length
}

// ranged is the error of such a part.
func ranged(in bool) api.Errno {
	if in {
		return api.OK
	}
	return api.ErrRange
}

// step does one thing, by chance.
func (p *player) step() {
	switch p.chance.below(14) {
	case 0, 1, 2:
		off, n, in := p.part(len(p.flat.now))
		s := some(p.chance.below(1000), n)
		is(p.t, "Write", p.m.Write(off, s), ranged(in))
		if in {
			copy(p.flat.now[off:], s)
		}
	case 3:
		off, n, in := p.part(len(p.flat.now))
		is(p.t, "Zero", p.m.Zero(off, int64(n)), ranged(in))
		if in {
			clear(p.flat.now[off:][:n])
		}
	case 4:
		off, n, in := p.part(len(p.flat.now))
		is(p.t, "Discard", p.m.Discard(off, int64(n)), ranged(in))
		if from, to := (int(off)+p.size-1)/p.size*p.size, (int(off)+n)/p.size*p.size; in && from < to {
			clear(p.flat.now[from:to])
		}
	case 5, 6, 7:
		p.snapStep()
	case 8:
		p.flush()
	case 9:
		p.replace()
	case 10:
		p.resize()
	default:
		p.look()
	}
}

// snapStep does one thing with snapshots.
func (p *player) snapStep() {
	id := p.chance.below(p.flat.next + 1)
	i, want := p.flat.find(id), api.OK
	if i < 0 {
		want = api.ErrNone
	}
	switch p.chance.below(4) {
	case 0:
		if len(p.flat.snaps) < 5 {
			name := "snapshot " + strconv.Itoa(p.flat.next)
			if id := snapshot(p.t, p.m, name); id != p.flat.next {
				p.t.Fatalf("Snapshot = %d, not %d", id, p.flat.next)
			}
			p.flat.snaps = append(p.flat.snaps, flatSnap{p.flat.next, name, slices.Clone(p.flat.now)})
			p.flat.next++
		}
	case 1:
		is(p.t, "Delete", p.m.Delete(id), want)
		if i >= 0 {
			p.flat.snaps = slices.Delete(p.flat.snaps, i, i+1)
		}
	case 2:
		is(p.t, "Revert", p.m.Revert(id), want)
		if i >= 0 {
			p.flat.now = slices.Clone(p.flat.snaps[i].bytes)
		}
	case 3:
		if i < 0 {
			_, err := p.m.ReadSnap(id, 0, 0)
			is(p.t, "ReadSnap", err, want)
			return
		}
		off, n, in := p.part(len(p.flat.snaps[i].bytes))
		s, err := p.m.ReadSnap(id, off, int64(n))
		is(p.t, "ReadSnap", err, ranged(in))
		if in && s != string(p.flat.snaps[i].bytes[off:][:n]) {
			p.t.Fatalf("ReadSnap(%d, %d, %d) = %q", id, off, n, s)
		}
	}
}

// flush commits, if there is room.
func (p *player) flush() {
	need, err := plan.Need(p.m.Geom(), p.m.State())
	is(p.t, "Need", err, api.OK)
	want := api.OK
	if need > space.Free(p.m.Use()) {
		want = api.ErrSpace
	}
	is(p.t, "Flush", p.m.Flush(), want)
	if want == api.OK {
		p.sure = p.flat.clone()
	}
}

// replace has some members replaced, some of them none.
func (p *player) replace() {
	var l []api.Place
	for range p.chance.below(6) {
		l = append(l, api.Place{Stripe: p.chance.below(p.m.State().NextStripe + 1), Member: p.chance.below(4)})
	}
	if _, err := p.m.Replace(l); err != api.OK {
		p.t.Fatalf("Replace = %d", err)
	}
}

// resize changes how many blocks there are.
func (p *player) resize() {
	n := p.chance.below(100) * p.size
	is(p.t, "Resize", p.m.Resize(n/p.size), api.OK)
	if n <= len(p.flat.now) {
		p.flat.now = slices.Clone(p.flat.now[:n])
	} else {
		p.flat.now = append(p.flat.now, make([]byte, n-len(p.flat.now))...)
	}
}

// look reads some bytes.
func (p *player) look() {
	off, n, in := p.part(len(p.flat.now))
	s, err := p.m.Read(off, int64(n))
	is(p.t, "Read", err, ranged(in))
	if in && s != string(p.flat.now[off:][:n]) {
		p.t.Fatalf("Read(%d, %d) = %q", off, n, s)
	}
}

// all ends a test, if anything of the image is other than f has it.
func (p *player) all(f flat) {
	p.t.Helper()
	if p.m.Size() != int64(len(f.now)) || p.m.State().NextSnap != f.next {
		p.t.Fatalf("Size = %d, not %d", p.m.Size(), len(f.now))
	}
	reads(p.t, p.m, 0, string(f.now))
	l := p.m.Snaps()
	if len(l) != len(f.snaps) {
		p.t.Fatalf("Snaps = %v", l)
	}
	for i, x := range f.snaps {
		if l[i].Id != x.id || l[i].Name != x.name || l[i].Chart.Blocks*p.size != len(x.bytes) {
			p.t.Fatalf("Snaps = %v", l)
		}
		readsSnap(p.t, p.m, x.id, 0, string(x.bytes))
	}
	fresh, err := refs.Fresh(p.size/8, state.Charts(p.m.State())...)
	is(p.t, "Fresh", err, api.OK)
	if p.m.Dirty() != len(fresh) || p.m.Broken() {
		p.t.Fatalf("Dirty = %d, not %d; broken: %v", p.m.Dirty(), len(fresh), p.m.Broken())
	}
}

// reopen opens the image anew; what was not committed is gone.
func (p *player) reopen() {
	m, err := image.Open(p.d)
	is(p.t, "Open", err, api.OK)
	p.m, p.flat = m, p.sure.clone()
}

// games are geometries to be played with, some of them narrow.
func games() []api.Geom {
	return []api.Geom{
		{Shift: 0, K: 2, M: 1, Clusters: 400},
		{Shift: 1, K: 3, M: 2, Clusters: 300},
		{Shift: 0, K: 4, M: 1, Clusters: 60},
		{Shift: 0, K: 1, M: 0, Clusters: 200},
		{Shift: 2, K: 5, M: 3, Clusters: 200},
	}
}

func TestPlay(t *testing.T) { // 21.7: what a flat array of bytes, and copies of it, would answer
	for seed, g := range games() {
		p := begin(t, g, 80, seed)
		for i := range 1500 {
			p.step()
			if i%10 == 0 {
				p.all(p.flat)
			}
			if p.chance.below(100) == 0 {
				p.reopen()
				p.all(p.flat)
			}
		}
	}
}

// hurt erases sectors of at most M members of each stripe, and of one copy of each page.
func (p *player) hurt() {
	g, s := p.m.Geom(), p.m.State()
	for _, x := range s.Stripes {
		first := p.chance.below(g.K + g.M)
		for i := range g.M {
			at := x.At[(first+i)%(g.K+g.M)]
			is(p.t, "Erase", p.d.Erase(at<<g.Shift+p.chance.below(1<<g.Shift)), api.OK)
		}
	}
	for _, x := range p.m.Pages() {
		at := x.A
		if p.chance.below(2) == 0 {
			at = x.B
		}
		is(p.t, "Erase", p.d.Erase(at<<g.Shift), api.OK)
	}
	is(p.t, "Erase", p.d.Erase(p.chance.below(2)), api.OK)
}

// heal writes anew what is bad, and opens the image anew.
func (p *player) heal() {
	for _, x := range p.m.State().Stripes {
		_, err := stripe.Heal(p.d, p.m.Geom(), x)
		is(p.t, "Heal", err, api.OK)
	}
	_, err := pages.Heal(p.d, p.m.Geom(), p.m.Pages())
	is(p.t, "Heal", err, api.OK)
	is(p.t, "Flush", p.d.Flush(), api.OK)
	p.reopen()
}

func TestPlayHurt(t *testing.T) { // 21.2, 21.5: what is damaged reads as it was, as long as it comes back
	for seed, g := range games() {
		p := begin(t, g, 80, 100+seed)
		for range 400 {
			p.step()
			if p.chance.below(30) == 0 {
				p.hurt()
				if p.chance.below(2) == 0 {
					p.reopen()
				}
				p.all(p.flat)
				for range 10 {
					p.step()
				}
				p.heal()
			}
		}
	}
}

func TestPlayDown(t *testing.T) { // 21.2, 21.5: behind a crash there is what was committed, or what was about to be
	cuts := 0
	for seed := range 40 {
		g := games()[seed%5]
		p := begin(t, g, 80, 200+seed)
		for range 30 {
			p.step()
		}
		p.d.Fuse(p.chance.below(100))
		err := p.m.Flush()
		if err == api.ErrDown {
			cuts++
			broken(t, "a flush that is cut off", p.m)
		}
		if err == api.OK {
			p.sure = p.flat.clone()
		}
		keep := make([]bool, len(p.d.Waiting()))
		for i := range keep {
			keep[i] = p.chance.below(2) == 0
		}
		p.d.Crash(keep...)
		about, gen := p.flat, p.m.Gen()
		p.reopen()
		if err == api.ErrDown && p.m.Gen() > gen {
			p.flat = about
		}
		p.all(p.flat)
	}
	if cuts < 10 {
		t.Errorf("%d flushes are cut off", cuts)
	}
}
