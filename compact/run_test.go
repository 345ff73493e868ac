package compact_test

import (
	"reflect"
	"slices"
	"testing"

	"caulk/api"
	"caulk/compact"
	"caulk/dev"
	"caulk/geom"
	"caulk/image"
	"caulk/load"
	"caulk/plan"
	"caulk/pool"
)

// shared is an image of which the stripes 0 and 1 are sparse, to which a snapshot alone refers, and, if K is above 2, the stripe 2; the stripe 3 is full.
func shared(t *testing.T, g api.Geom) (*dev.Dev, *image.Image) {
	t.Helper()
	d, m := made(t, g, 20)
	size := geom.Size(g)
	put(t, m, 0, some(1, g.K*size))
	put(t, m, 0, some(2, (g.K-1)*size)) // the stripe 0 has the block K - 1 alone
	_, err := m.Snapshot("one")
	is(t, "Snapshot", err, api.OK)
	put(t, m, 0, some(3, g.K*size))
	discard(t, m, 0, 2)
	put(t, m, 5, some(4, g.K*size))
	return d, m
}

func TestRun(t *testing.T) { // 26.2: the places of sparse stripes, and nothing else, come into new ones
	d, m := made(t, small(), 20)
	put(t, m, 0, some(1, 4*512)) // the stripes 0 and 1
	_, err := m.Snapshot("a")
	is(t, "Snapshot", err, api.OK)
	put(t, m, 0, some(2, 2*512)) // 2; the snapshot alone has 0
	put(t, m, 0, some(3, 512))   // 3, that has one member; so has 2 then
	discard(t, m, 9, 1)
	is(t, "Flush", m.Flush(), api.OK)
	finds(t, "ahead", small(), m.State(), []int{2, 3}, []api.Place{{Stripe: 2, Member: 1}, {Stripe: 3, Member: 0}})
	was, gen := m.State(), m.Gen()
	runs(t, "two", m, 1)
	s := m.State()
	now := build(64, 20, map[int]api.Entry{0: disk(4, 0), 1: disk(4, 1), 2: disk(1, 0), 3: disk(1, 1)})
	if !same(s.Now, now) || !same(s.Snaps, was.Snaps) || s.NextStripe != 5 || m.Gen() != gen+1 || m.Dirty() != 0 {
		t.Errorf("there is %v", s)
	}
	if len(s.Stripes) != 3 || !same(s.Stripes[:2], was.Stripes[:2]) || s.Stripes[2].Id != 4 {
		t.Errorf("the stripes are %v", s.Stripes)
	}
	finds(t, "behind", small(), s, nil, nil)
	if len(d.Waiting()) > 0 || !reflect.DeepEqual(all(t, open(t, d)), all(t, m)) {
		t.Error("it is not committed")
	}
	writes := d.Writes()
	runs(t, "once more", m, 0)
	if d.Writes() != writes || m.Gen() != gen+1 {
		t.Error("something is written")
	}
}

func TestRunSnaps(t *testing.T) { // 26.2: what snapshots alone have is moved, too, and stays shared
	for _, g := range []api.Geom{small(), wide()} {
		_, m := shared(t, g)
		sparse, err := compact.Sparse(g, m.State())
		is(t, "Sparse", err, api.OK)
		if len(sparse) != g.K {
			t.Fatalf("%v are sparse", sparse)
		}
		places, err := compact.Places(g, m.State())
		is(t, "Places", err, api.OK)
		was := m.State()
		want := (len(places) + g.K - 1) / g.K
		runs(t, "snapshots", m, len(sparse)-want)
		s := m.State()
		if len(s.Stripes) != len(was.Stripes)-len(sparse)+want || s.NextStripe != was.NextStripe+want {
			t.Errorf("the stripes are %v", s.Stripes)
		}
		for _, x := range s.Stripes {
			if slices.Contains(sparse, x.Id) {
				t.Errorf("the stripe %d is there still", x.Id)
			}
		}
	}
}

func TestRunFew(t *testing.T) { // 26.2: fewer than two sparse stripes: nothing is done
	nothing := func(say string, d *dev.Dev, m *image.Image) {
		t.Helper()
		was, writes, bytes := seen(m), d.Writes(), d.Bytes()
		if n, err := compact.Run(m); n != 0 || err != api.OK {
			t.Fatalf("%s: Run = %d, %d", say, n, err)
		}
		if !same(seen(m), was) || d.Writes() != writes || d.Bytes() != bytes || len(d.Waiting()) > 0 {
			t.Errorf("%s: there is %v, not %v", say, seen(m), was)
		}
	}
	d, m := made(t, small(), 20)
	nothing("holes", d, m)
	write(t, m, 0, some(1, 3*512))
	nothing("fresh data", d, m)
	is(t, "Flush", m.Flush(), api.OK)
	nothing("one", d, m)
	write(t, m, 5, some(1, 3*512))
	nothing("one, and fresh data", d, m)
	is(t, "Flush", m.Flush(), api.OK)
	finds(t, "two", small(), m.State(), []int{1, 3}, []api.Place{{Stripe: 1}, {Stripe: 3}})
	discard(t, m, 2, 1)
	nothing("one, and one to which nothing refers", d, m)
	discard(t, m, 0, 20)
	nothing("those to which nothing refers", d, m)
	d.Fuse(0)
	is(t, "Flush", d.Flush(), api.ErrDown)
	nothing("down", d, m)

	d, m = made(t, api.Geom{K: 1, M: 1, Clusters: 60}, 20) // a stripe of one member is full, or nobody's
	for b := range 5 {
		put(t, m, b, some(b, 512))
	}
	discard(t, m, 1, 3)
	nothing("K is 1", d, m)
}

func TestRunNotFewer(t *testing.T) { // 26.2: 0, if there are not fewer; but they are moved
	g := wide()
	d, m := made(t, g, 20)
	put(t, m, 0, some(1, 2*1024))
	put(t, m, 2, some(2, 2*1024))
	runs(t, "as many", m, 0) // four members: three, and one
	if s := m.State(); len(s.Stripes) != 2 || s.Stripes[0].Id != 2 || m.Gen() != 4 {
		t.Errorf("there is %v", s)
	}
	finds(t, "as many", g, m.State(), []int{3}, []api.Place{{Stripe: 3}})
	put(t, m, 4, some(3, 1024))
	write(t, m, 5, some(4, 5*1024))
	runs(t, "more", m, 0) // the two that were sparse have two, and there are five fresh ones
	if s := m.State(); len(s.Stripes) != 4 || m.Dirty() != 0 || m.Gen() != 6 {
		t.Errorf("there is %v", s)
	}
	if !reflect.DeepEqual(all(t, open(t, d)), all(t, m)) {
		t.Error("it is not committed")
	}
}

func TestRunDead(t *testing.T) { // 26.2: stripes to which nothing refers any more are fewer, too
	_, m := made(t, small(), 20)
	put(t, m, 0, some(1, 4*512))
	put(t, m, 4, some(2, 512))
	put(t, m, 5, some(3, 512))
	discard(t, m, 0, 4)
	runs(t, "two of two, and two", m, 3)
}

func TestRunDown(t *testing.T) { // 26.2: ErrDown, if the image is broken, or comes to be
	d, m := shared(t, small())
	d.Fuse(0)
	fails(t, "its commit is cut off", m, api.ErrDown)
	if !m.Broken() {
		t.Error("it is not broken")
	}
	d.Crash()
	fails(t, "broken", m, api.ErrDown) // the device is up again, but the image must be opened anew
	m = open(t, d)
	d.Fuse(0)
	is(t, "Flush", d.Flush(), api.ErrDown)
	fails(t, "what is to be moved can't be read", m, api.ErrDown)
	if !m.Broken() || m.Dirty() != 0 {
		t.Errorf("Dirty = %d, broken: %v", m.Dirty(), m.Broken())
	}
	d.Crash()
	runs(t, "opened anew", open(t, d), 1)

	d, m = made(t, small(), 20)
	put(t, m, 0, some(1, 2*512))
	d.Fuse(0)
	is(t, "Flush", m.Flush(), api.ErrDown)
	fails(t, "broken, and nothing is sparse", m, api.ErrDown)
}

func TestRunDamaged(t *testing.T) { // 26.2: Replace's error; nothing has changed then
	g := small()
	d, m := shared(t, g)
	places, err := compact.Places(g, m.State())
	is(t, "Places", err, api.OK)
	last := places[len(places)-1]
	for _, x := range m.State().Stripes {
		if x.Id == last.Stripe {
			is(t, "Erase", d.Erase(x.At[0])+d.Erase(x.At[1])+d.Erase(x.At[2]), api.OK)
		}
	}
	was, writes := seen(m), d.Writes()
	fails(t, "lost", m, api.ErrDamaged)
	if !same(seen(m), was) || d.Writes() != writes {
		t.Errorf("there is %v, not %v", seen(m), was)
	}
}

func TestRunHealed(t *testing.T) { // 26.4: what comes back by parity is moved as it was
	g := wide()
	d, m := shared(t, g)
	want := all(t, m)
	for _, x := range m.State().Stripes {
		is(t, "Erase", d.Erase(x.At[0]<<1)+d.Erase(x.At[1]<<1+1), api.OK)
	}
	if _, err := compact.Run(m); err != api.OK {
		t.Errorf("Run = %d", err)
	}
	if !reflect.DeepEqual(all(t, m), want) || !reflect.DeepEqual(all(t, open(t, d)), want) {
		t.Error("other bytes are read")
	}
}

func TestRunSpace(t *testing.T) { // 26.2: Flush's error; all is read as it was
	g := api.Geom{K: 2, M: 1, Clusters: 23} // slots, four stripes, six of pages, three for those ahead
	d, m := made(t, g, 20)
	put(t, m, 0, some(1, 512))
	put(t, m, 1, some(2, 512))
	for b := 2; ; b += 2 { // till there is no room
		write(t, m, b, some(b, 2*512))
		if m.Flush() != api.OK {
			discard(t, m, b, 2)
			break
		}
	}
	gen, writes := m.Gen(), d.Writes()
	fails(t, "no room", m, api.ErrSpace)
	if m.Gen() != gen || d.Writes() != writes || m.Dirty() != 2 || m.Broken() {
		t.Errorf("%d sectors are written, Dirty = %d", d.Writes()-writes, m.Dirty())
	}
	runs(t, "none is sparse now", m, 0)
}

func TestRunLastGen(t *testing.T) { // 26.2: Flush's error
	d, m := shared(t, small())
	o, err := load.Open(d)
	is(t, "Open", err, api.OK)
	p, err := plan.Make(small(), m.State(), pool.New(), o.Use)
	is(t, "Make", err, api.OK)
	_, err = load.Commit(d, small(), api.MaxGen, p)
	is(t, "Commit", err, api.OK)
	m = open(t, d)
	fails(t, "the last one", m, api.ErrFull)
	if m.Broken() || m.Gen() != api.MaxGen {
		t.Errorf("Gen = %d", m.Gen())
	}
}

func TestRunCutOff(t *testing.T) { // 26.2, 26.4: cut off anywhere, it reads as it was
	whole, m := shared(t, wide())
	want, next := all(t, m), draw(1)
	cuts, late, gen := 0, 0, m.Gen()
	for fuse := 0; ; fuse++ {
		d := whole.Clone()
		m := open(t, d)
		d.Fuse(fuse)
		n, err := compact.Run(m)
		if err == api.OK {
			d.Fuse(-1)
			if n != 1 || !reflect.DeepEqual(all(t, m), want) || !reflect.DeepEqual(all(t, open(t, d)), want) {
				t.Errorf("Run = %d, or other bytes are read", n)
			}
			break
		}
		if n != 0 || err != api.ErrDown || !m.Broken() {
			t.Fatalf("behind %d steps Run = %d, %d", fuse, n, err)
		}
		cuts++
		keep := make([]bool, len(d.Waiting()))
		for i := range keep {
			keep[i] = next(2) == 0
		}
		d.Crash(keep...)
		m = open(t, d)
		if !reflect.DeepEqual(all(t, m), want) {
			t.Fatalf("behind %d steps other bytes are read", fuse)
		}
		gone := 1 // if the one that was cut off is not committed
		if m.Gen() > gen {
			gone = 0
			late++
		}
		runs(t, "behind a crash", m, gone)
	}
	if cuts < 10 || late < 1 {
		t.Errorf("it was cut off %d times, %d of them late", cuts, late)
	}
}

// byHand is what a run does, step by step, as the chapter's words say it.
func byHand(t *testing.T, m *image.Image) (int, api.Errno) {
	t.Helper()
	sparse, err := compact.Sparse(m.Geom(), m.State())
	is(t, "Sparse", err, api.OK)
	if len(sparse) < 2 {
		return 0, api.OK
	}
	places, err := compact.Places(m.Geom(), m.State())
	is(t, "Places", err, api.OK)
	ahead := len(m.State().Stripes)
	if _, err := m.Replace(places); err != api.OK {
		return 0, err
	}
	if err := m.Flush(); err != api.OK {
		return 0, err
	}
	return max(ahead-len(m.State().Stripes), 0), api.OK
}

// step changes something of an image, by chance.
func step(m *image.Image, next func(n int) int) {
	size := int64(geom.Size(m.Geom()))
	blocks := int(m.Size() / size)
	switch next(9) {
	case 0:
		m.Snapshot(string(rune('a' + next(5))))
	case 1:
		m.Delete(next(1 + m.State().NextSnap))
	case 2:
		m.Revert(next(1 + m.State().NextSnap))
	case 3:
		m.Resize(20 + next(30))
	case 4, 5:
		m.Discard(int64(next(blocks))*size, int64(next(6))*size)
	case 6:
		m.Flush()
	default:
		m.Write(int64(next(blocks))*size+int64(next(2)), some(next(1000), (1+next(3))*int(size)-1))
	}
}

func TestRunByChance(t *testing.T) { // 26.2, step by step; 26.4: no more than one
	var moved, fewer, full int
	for seed := range 16 {
		g := []api.Geom{small(), wide(), {Shift: 0, K: 5, M: 1, Clusters: 150}, {Shift: 1, K: 1, M: 2, Clusters: 150}}[seed%4]
		d, m := made(t, g, 40)
		e, twin := made(t, g, 40)
		for i := range 40 {
			a, b := draw(uint64(seed*1000+i)), draw(uint64(seed*1000+i))
			for range 8 {
				step(m, a)
				step(twin, b)
			}
			if i%3 > 0 {
				m.Flush()
				twin.Flush()
			}
			was, settled, ahead := all(t, m), m.Dirty() == 0, len(m.State().Stripes)
			sparse, _ := compact.Sparse(g, m.State())
			n, err := compact.Run(m)
			want, e2 := byHand(t, twin)
			if n != want || err != e2 || !same(seen(m), seen(twin)) || d.Bytes() != e.Bytes() || d.Writes() != e.Writes() {
				t.Fatalf("%d: Run = %d, %d, not %d, %d", seed, n, err, want, e2)
			}
			if !reflect.DeepEqual(all(t, m), was) {
				t.Fatalf("%d: other bytes are read", seed)
			}
			if err != api.OK {
				full++
				continue
			}
			if len(sparse) > 1 {
				moved++
			}
			if !settled {
				continue
			}
			left, _ := compact.Sparse(g, m.State())
			if now := len(m.State().Stripes); len(left) > 1 || now > ahead || n != ahead-now {
				t.Fatalf("%d: %v are sparse, there are %d, not %d stripes, Run = %d", seed, left, now, ahead, n)
			}
			if n > 0 {
				fewer++
			}
		}
	}
	if moved < 100 || fewer < 80 || full < 1 {
		t.Errorf("%d times something was moved, %d times there were fewer, %d times there was no room", moved, fewer, full)
	}
}
