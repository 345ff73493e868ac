package image_test

import (
	"math"
	"slices"
	"testing"

	"caulk/api"
	"caulk/dev"
	"caulk/entry"
	"caulk/geom"
	"caulk/image"
	"caulk/stripe"
)

func TestReadAnywhere(t *testing.T) { // 21.2: of holes, of fresh data, and of the disk
	for _, g := range []api.Geom{small(), wide()} {
		_, m := made(t, g, 9)
		size := geom.Size(g)
		flat := []byte(noughts(9 * size))
		put := func(off int, s string) {
			write(t, m, int64(off), s)
			copy(flat[off:], s)
		}
		put(size, some(1, size))
		put(3*size-7, some(2, 20))
		put(8*size, some(3, size))
		flush(t, m)
		put(size+100, some(4, 50))
		put(6*size, some(5, size+1))
		for off := 0; off <= len(flat); off += 97 {
			for _, n := range []int{0, 1, 2, 96, size - 1, size, size + 1, 3 * size, len(flat) - off} {
				if off+n <= len(flat) {
					reads(t, m, int64(off), string(flat[off:off+n]))
				}
			}
		}
	}
}

func TestReadWrong(t *testing.T) { // 21.2: the first of the errors
	_, m := made(t, small(), 4096)
	size := m.Size()
	id := snapshot(t, m, "half")
	is(t, "Resize", m.Resize(2048), api.OK)
	now := m.Size()
	for _, x := range []struct {
		off, n    int64
		want, old api.Errno // of now, and of the snapshot, which is twice as long
	}{
		{-1, 0, api.ErrRange, api.ErrRange},
		{0, -1, api.ErrRange, api.ErrRange},
		{math.MinInt64, math.MinInt64, api.ErrRange, api.ErrRange},
		{math.MaxInt64, math.MaxInt64, api.ErrRange, api.ErrRange},
		{api.MaxBytes + 1, api.MaxRead + 1, api.ErrRange, api.ErrRange},
		{0, api.MaxBytes + 1, api.ErrRange, api.ErrRange},
		{0, api.MaxRead + 1, api.ErrLong, api.ErrLong},
		{size, api.MaxRead + 1, api.ErrLong, api.ErrLong}, // ahead of what is above the size
		{api.MaxBytes, api.MaxBytes, api.ErrLong, api.ErrLong},
		{0, api.MaxRead, api.OK, api.OK},
		{now, 0, api.OK, api.OK},
		{now, 1, api.ErrRange, api.OK},
		{now - 1, 1, api.OK, api.OK},
		{now - 1, 2, api.ErrRange, api.OK},
		{now + 1, 0, api.ErrRange, api.OK},
		{1, api.MaxRead, api.ErrRange, api.OK},
		{size - api.MaxRead, api.MaxRead, api.ErrRange, api.OK},
		{size, 0, api.ErrRange, api.OK},
		{size, 1, api.ErrRange, api.ErrRange},
		{size + 1, 0, api.ErrRange, api.ErrRange},
		{api.MaxBytes, 0, api.ErrRange, api.ErrRange},
		{api.MaxBytes, api.MaxRead, api.ErrRange, api.ErrRange},
	} {
		fails(t, "Read", m, x.want, func() api.Errno { return answers(t, func() (string, api.Errno) { return m.Read(x.off, x.n) }) })
		fails(t, "ReadSnap", m, x.old, func() api.Errno { return answers(t, func() (string, api.Errno) { return m.ReadSnap(id, x.off, x.n) }) })
		for _, no := range []int{-1, 1, math.MinInt, math.MaxInt} {
			fails(t, "ReadSnap", m, api.ErrNone, func() api.Errno { return answers(t, func() (string, api.Errno) { return m.ReadSnap(no, x.off, x.n) }) })
		}
	}
}

func TestReadNothing(t *testing.T) { // 21.2: a map of no blocks
	_, m := made(t, small(), 0)
	reads(t, m, 0, "")
	fails(t, "Read", m, api.ErrRange, func() api.Errno { return answers(t, func() (string, api.Errno) { return m.Read(0, 1) }) })
	fails(t, "Read", m, api.ErrRange, func() api.Errno { return answers(t, func() (string, api.Errno) { return m.Read(1, 0) }) })
}

func TestReadSnap(t *testing.T) { // 21.2: of its own map
	_, m := made(t, small(), 10)
	write(t, m, 0, some(1, 1024))
	one := snapshot(t, m, "one")
	write(t, m, 512, some(2, 1024))
	flush(t, m)
	two := snapshot(t, m, "two")
	write(t, m, 0, some(3, 512))
	is(t, "Delete", m.Delete(one), api.OK)
	three := snapshot(t, m, "three")
	is(t, "Resize", m.Resize(1), api.OK)
	readsSnap(t, m, two, 0, some(1, 1024)[:512]+some(2, 1024)+noughts(7*512))
	readsSnap(t, m, three, 0, some(3, 512)+some(2, 1024)+noughts(7*512))
	readsSnap(t, m, three, 511, some(3, 512)[511:]+some(2, 1024)[:1])
	fails(t, "ReadSnap", m, api.ErrNone, func() api.Errno { return answers(t, func() (string, api.Errno) { return m.ReadSnap(one, 0, 1) }) })
}

func TestReadByParity(t *testing.T) { // 21.2: what came back is written to its cluster, too
	for _, g := range []api.Geom{small(), wide()} {
		size := geom.Size(g)
		d, m := made(t, g, 10)
		write(t, m, 0, some(1, 6*size))
		id := snapshot(t, m, "one")
		flush(t, m)
		whole := d.Bytes()
		p := place(t, m, 1)
		at := cluster(t, m, p)
		for i, read := range []func(){
			func() { reads(t, m, 0, some(1, 6*size)) },
			func() { readsSnap(t, m, id, int64(2*size-1), some(1, 6*size)[2*size-1:2*size]) },
			func() { write(t, m, int64(2*size-1), some(1, 6*size)[2*size-1:2*size]) },
		} {
			erase(t, d, m, p)
			was := d.Writes()
			read()
			if n := d.Writes() - was; n != 1<<g.Shift {
				t.Fatalf("%d: %d sectors are written", i, n)
			}
			var want []int
			for s := range 1 << g.Shift {
				want = append(want, at<<g.Shift+s)
			}
			if got := d.Waiting(); !slices.Equal(got, want) { // no flush
				t.Fatalf("%d: %v wait, not %v", i, got, want)
			}
			was = d.Writes()
			reads(t, m, 0, some(1, 6*size))
			if d.Writes() != was {
				t.Fatalf("%d: what was written is written again", i)
			}
			is(t, "Flush", d.Flush(), api.OK)
			if d.Bytes() != whole || len(d.Bad()) > 0 {
				t.Fatalf("%d: the device is another one, %v are bad", i, d.Bad())
			}
		}
	}
}

func TestReadGarbled(t *testing.T) { // 21.2: what is not what its sum says comes back likewise
	d, m := made(t, wide(), 10)
	write(t, m, 0, some(1, 3*1024))
	flush(t, m)
	whole := d.Bytes()
	for i := range 2 {
		is(t, "Garble", d.Garble(cluster(t, m, place(t, m, i))*2+1, 508, 1<<31), api.OK)
	}
	reads(t, m, 0, some(1, 3*1024))
	is(t, "Flush", d.Flush(), api.OK)
	if d.Bytes() != whole {
		t.Error("the device is another one")
	}
}

func TestReadOthersBad(t *testing.T) { // 21.2: what need not come back is not written
	d, m := made(t, small(), 10)
	write(t, m, 0, some(1, 4*512))
	flush(t, m)
	p := place(t, m, 0)
	erase(t, d, m, api.Place{Stripe: p.Stripe, Member: 1})
	erase(t, d, m, api.Place{Stripe: p.Stripe, Member: 2})
	was := d.Writes()
	reads(t, m, 0, some(1, 512))
	if d.Writes() != was {
		t.Errorf("%d sectors are written", d.Writes()-was)
	}
}

func TestReadDamaged(t *testing.T) { // 21.2: the first error of reading a block
	d, m := made(t, small(), 10)
	write(t, m, 0, some(1, 6*512))
	id := snapshot(t, m, "one")
	flush(t, m)
	spoilt(t, d, m, 2) // and with it the block 3
	for off := int64(0); off < 6*512; off += 256 {
		for n := int64(0); off+n <= 6*512; n += 256 {
			want := api.OK
			if n > 0 && off < 4*512 && off+n > 2*512 {
				want = api.ErrDamaged
			}
			fails(t, "Read", m, want, func() api.Errno { return answers(t, func() (string, api.Errno) { return m.Read(off, n) }) })
			fails(t, "ReadSnap", m, want, func() api.Errno { return answers(t, func() (string, api.Errno) { return m.ReadSnap(id, off, n) }) })
		}
	}
	reads(t, m, 4*512, some(1, 6*512)[4*512:])
}

func TestReadDown(t *testing.T) { // 21.2: with ErrDown of a block the image is broken
	fresh := func() (*dev.Dev, *image.Image) {
		d, m := made(t, small(), 10)
		write(t, m, 0, some(1, 4*512))
		snapshot(t, m, "one")
		flush(t, m)
		write(t, m, 0, some(2, 512))
		return d, m
	}
	d, m := fresh()
	d.Fuse(0)
	is(t, "Flush", d.Flush(), api.ErrDown)
	fails(t, "a hole", m, api.OK, func() api.Errno { _, err := m.Read(4*512, 512); return err }) // the device is not asked
	fails(t, "fresh data", m, api.OK, func() api.Errno { _, err := m.Read(0, 512); return err })
	breaks(t, "a block of the disk", m, func() api.Errno { return answers(t, func() (string, api.Errno) { return m.Read(512, 1) }) })

	d, m = fresh()
	d.Fuse(0)
	is(t, "Flush", d.Flush(), api.ErrDown)
	breaks(t, "of a snapshot", m, func() api.Errno { return answers(t, func() (string, api.Errno) { return m.ReadSnap(0, 0, 1) }) })

	d, m = fresh()
	erase(t, d, m, place(t, m, 1))
	d.Fuse(0)
	fails(t, "a block that is not bad", m, api.OK, func() api.Errno { _, err := m.Read(2*512, 512); return err })
	breaks(t, "what came back can't be written", m, func() api.Errno { return answers(t, func() (string, api.Errno) { return m.Read(0, 2*512) }) })
}

func TestReadOrder(t *testing.T) { // 21.2: the errors of blocks come in their order
	for _, x := range []struct {
		bad, back int
		want      api.Errno
	}{{1, 3, api.ErrDamaged}, {3, 1, api.ErrDown}} {
		d, m := made(t, small(), 10)
		write(t, m, 0, some(1, 6*512))
		flush(t, m)
		spoilt(t, d, m, x.bad)
		erase(t, d, m, place(t, m, x.back))
		d.Fuse(0)
		if _, err := m.Read(512, 3*512); err != x.want || m.Broken() != (err == api.ErrDown) {
			t.Errorf("Read = %d, broken: %v", err, m.Broken())
		}
	}
}

func TestReadNobodys(t *testing.T) { // 21.2: other errors of writing what came back are nobody's
	g := small()
	x, pieces, err := stripe.Make(g, 4, []int{70, 10, 11}, some(1, 512), some(2, 512))
	is(t, "Make", err, api.OK)
	now := api.Chart{Blocks: 2, Tables: []api.Table{{L: make([]api.Entry, geom.Entries(g))}}}
	now.Tables[0].L[0] = entry.Disk(api.Place{Stripe: 4})
	now.Tables[0].L[1] = entry.Disk(api.Place{Stripe: 4, Member: 1})
	d, m := laid(t, g, 7, api.State{Now: now, Stripes: []api.Stripe{x}, NextStripe: 5}, pieces)
	cut, err := dev.Load(d.Bytes()[:70*512]) // there is no room for the first member any more
	is(t, "Load", err, api.OK)
	*d = *cut
	reads(t, m, 0, some(1, 512)+some(2, 512))
	if m.Broken() || d.Writes() != 0 || len(d.Waiting()) > 0 {
		t.Errorf("broken: %v, %v wait", m.Broken(), d.Waiting())
	}
	d.Fuse(0) // nothing can be written, so nothing asks for it
	reads(t, m, 0, some(1, 512)+some(2, 512))
}
