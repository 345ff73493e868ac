package image_test

import (
	"math"
	"strings"
	"testing"

	"caulk/api"
	"caulk/dev"
	"caulk/image"
)

func TestWrite(t *testing.T) { // 21.3: each block is fresh, in order; what is beside the bytes stays
	_, m := made(t, small(), 10)
	write(t, m, 512, some(1, 1024))
	entries(t, m, 0, 0, 1, 2, 0)
	write(t, m, 3*512+10, "abc")
	entries(t, m, 0, 0, 1, 2, 3, 0)
	reads(t, m, 3*512, noughts(10)+"abc"+noughts(499))
	write(t, m, 2*512-1, some(2, 514)) // the end of 1, all of 2, the first byte of 3
	entries(t, m, 0, 0, 4, 5, 6, 0)
	reads(t, m, 0, noughts(512)+some(1, 511)+some(2, 514)+noughts(9)+"abc"+noughts(499))
	flush(t, m)
	entries(t, m, 0, 0, -1, -1, -1, 0)
	write(t, m, 512, "x")
	entries(t, m, 0, 0, 7, -1, -1, 0)
	reads(t, m, 512, "x"+some(1, 511)[1:])
	if m.Dirty() != 1 {
		t.Errorf("Dirty = %d", m.Dirty())
	}
}

func TestWriteNothing(t *testing.T) { // 21.3
	_, m := made(t, small(), 10)
	for _, off := range []int64{0, 5, 512, 10 * 512} {
		fails(t, "Write", m, api.OK, func() api.Errno { return m.Write(off, "") })
		fails(t, "Zero", m, api.OK, func() api.Errno { return m.Zero(off, 0) })
		fails(t, "Discard", m, api.OK, func() api.Errno { return m.Discard(off, 0) })
	}
	write(t, m, 0, "x")
	entries(t, m, 0, 1, 0)
}

func TestWriteMuch(t *testing.T) { // 21.3: MaxRead bytes at once, to tables that are and are not there
	_, m := made(t, small(), api.MaxBlocks)
	s := some(1, api.MaxRead)
	write(t, m, 70*512, "there")
	write(t, m, 1, s)
	if n := m.Dirty(); n != api.MaxRead/512+1 {
		t.Errorf("Dirty = %d", n)
	}
	entries(t, m, 0, 2, 3, 4)
	entries(t, m, 2047, 2049, 2050, 0)
	reads(t, m, 0, "\x00"+s[:api.MaxRead-1])
	reads(t, m, api.MaxRead, s[api.MaxRead-1:]+noughts(5))
	is(t, "Zero", m.Zero(0, api.MaxRead), api.OK)
	if l := m.State().Now.Tables; len(l) != 1 || m.Dirty() != 1 { // what holes alone are left of is gone
		t.Errorf("%d tables, Dirty = %d", len(l), m.Dirty())
	}
	is(t, "Discard", m.Discard(512, api.MaxRead), api.OK)
	if l := m.State().Now.Tables; len(l) != 0 || m.Dirty() != 0 {
		t.Errorf("%d tables, Dirty = %d", len(l), m.Dirty())
	}
	write(t, m, (api.MaxBlocks-1)*512, some(2, 512))
	entries(t, m, api.MaxBlocks-2, 0, 2051)
}

func TestWriteWrong(t *testing.T) { // 21.3: as Read, up to ErrRange
	_, m := made(t, small(), 4096)
	write(t, m, 0, some(1, 700))
	size, long := m.Size(), noughts(api.MaxRead+1)
	for _, x := range []struct {
		off, n int64
		want   api.Errno
	}{
		{-1, 0, api.ErrRange},
		{-1, api.MaxRead + 1, api.ErrRange},
		{math.MinInt64, 1, api.ErrRange},
		{math.MaxInt64, 1, api.ErrRange},
		{api.MaxBytes + 1, 1, api.ErrRange},
		{0, api.MaxRead + 1, api.ErrLong},
		{size, api.MaxRead + 1, api.ErrLong},
		{api.MaxBytes, 1, api.ErrRange},
		{size, 1, api.ErrRange},
		{size + 1, 0, api.ErrRange},
		{size - 1, 2, api.ErrRange},
		{size - api.MaxRead + 1, api.MaxRead, api.ErrRange},
	} {
		fails(t, "Write", m, x.want, func() api.Errno { return m.Write(x.off, long[:x.n]) })
		fails(t, "Zero", m, x.want, func() api.Errno { return m.Zero(x.off, x.n) })
		fails(t, "Discard", m, x.want, func() api.Errno { return m.Discard(x.off, x.n) })
	}
	for _, n := range []int64{-1, math.MinInt64, math.MaxInt64, api.MaxBytes + 1} {
		fails(t, "Zero", m, api.ErrRange, func() api.Errno { return m.Zero(0, n) })
		fails(t, "Discard", m, api.ErrRange, func() api.Errno { return m.Discard(0, n) })
	}
	write(t, m, 512, "x")
	entries(t, m, 0, 1, 3, 0)
}

func TestZero(t *testing.T) { // 21.3: a block all of which is 00 is a hole, another one is fresh
	_, m := made(t, small(), 10)
	s := some(1, 5*512)
	write(t, m, 0, s)
	is(t, "Zero", m.Zero(500, 512+12+512+3), api.OK)
	entries(t, m, 0, 6, 0, 0, 7, 5, 0)
	reads(t, m, 0, s[:500]+noughts(12+1024+3)+s[3*512+3:])
	is(t, "Zero", m.Zero(9*512+1, 2), api.OK) // of a hole, too
	entries(t, m, 8, 0, 8)
	reads(t, m, 8*512, noughts(1024))
	flush(t, m)
	is(t, "Zero", m.Zero(512, 9*512), api.OK)
	entries(t, m, 0, -1, 0, 0, 0, 0, 0, 0, 0, 0, 0)
	reads(t, m, 0, s[:500]+noughts(12+9*512))
	if m.Dirty() != 0 {
		t.Errorf("Dirty = %d", m.Dirty())
	}
	write(t, m, 0, "x")
	entries(t, m, 0, 9) // holes take no numbers
}

func TestDiscard(t *testing.T) { // 21.3: blocks that lie within as a whole
	_, m := made(t, small(), 10)
	s := some(1, 5*512)
	write(t, m, 0, s)
	for _, x := range [][2]int64{{1, 1022}, {511, 2}, {0, 511}, {1, 511}} {
		fails(t, "Discard", m, api.OK, func() api.Errno { return m.Discard(x[0], x[1]) }) // none does
	}
	is(t, "Discard", m.Discard(511, 512+2), api.OK)
	entries(t, m, 0, 1, 0, 3, 4, 5, 0)
	is(t, "Discard", m.Discard(3*512-100, 612), api.OK)
	entries(t, m, 0, 1, 0, 3, 0, 5, 0)
	reads(t, m, 0, s[:512]+noughts(512)+s[1024:1536]+noughts(512)+s[2048:])
	if m.Dirty() != 3 {
		t.Errorf("Dirty = %d", m.Dirty())
	}
	flush(t, m)
	is(t, "Discard", m.Discard(0, 10*512), api.OK)
	entries(t, m, 0, 0, 0, 0, 0, 0)
	reads(t, m, 0, noughts(10*512))
}

func TestWriteOverDamaged(t *testing.T) { // 21.3: the block is read, if some of it stays
	d, m := made(t, small(), 10)
	s := some(1, 6*512)
	write(t, m, 0, s)
	flush(t, m)
	spoilt(t, d, m, 2) // and with it the block 3
	write(t, m, 0, s[:512])
	write(t, m, 0, s[:512])
	entries(t, m, 0, 8, -1)
	for _, x := range [][2]int64{{1100, 3}, {0, 1030}, {2*512 + 1, 2048}, {2 * 512, 2*512 - 1}, {2*512 + 1, 511}} {
		fails(t, "Write", m, api.ErrDamaged, func() api.Errno { return m.Write(x[0], s[:x[1]]) })
		fails(t, "Zero", m, api.ErrDamaged, func() api.Errno { return m.Zero(x[0], x[1]) })
		fails(t, "Discard", m, api.OK, func() api.Errno { return m.Discard(x[0], 1) })
	}
	reads(t, m, 0, s[:2*512])
	write(t, m, 4*512, "y")
	entries(t, m, 0, 8, -1, -1, -1, 9, -1) // the numbers go on where they were
	write(t, m, 2*512-1, s[:513])          // the one that stays in part is the one ahead of it
	entries(t, m, 0, 8, 10, 11)
}

func TestWriteOverBad(t *testing.T) { // 21.3: it comes back by parity ahead of that
	d, m := made(t, wide(), 10)
	s := some(1, 3*1024)
	write(t, m, 0, s)
	flush(t, m)
	whole := d.Bytes()
	erase(t, d, m, place(t, m, 1))
	erase(t, d, m, place(t, m, 2))
	write(t, m, 1024+5, "new")
	reads(t, m, 0, s[:1029]+"new"+s[1032:])
	is(t, "Flush", d.Flush(), api.OK)
	if d.Bytes() != whole {
		t.Error("the device is another one")
	}
}

// downed is a device that is down, and an image on it, that does not know yet, of blocks of the disk.
func downed(t *testing.T, s string) (*dev.Dev, *image.Image) {
	t.Helper()
	d, m := made(t, small(), 10)
	write(t, m, 0, s)
	flush(t, m)
	d.Fuse(0)
	is(t, "Flush", d.Flush(), api.ErrDown)
	return d, m
}

func TestWriteDown(t *testing.T) { // 21.3: ErrDown of a block; the device is not asked for more
	s := some(1, 4*512)
	_, m := downed(t, s)
	write(t, m, 0, s[:1024])
	is(t, "Zero", m.Zero(512, 512), api.OK)
	is(t, "Discard", m.Discard(0, 513), api.OK)
	write(t, m, 5*512-1, "y")
	breaks(t, "Write", m, func() api.Errno { return m.Write(1024-1, "xy") })
	_, m = downed(t, s)
	breaks(t, "Zero", m, func() api.Errno { return m.Zero(512, 513) })
	d, m := made(t, small(), 10)
	write(t, m, 0, s)
	flush(t, m)
	erase(t, d, m, place(t, m, 1))
	d.Fuse(0)
	breaks(t, "what came back can't be written", m, func() api.Errno { return m.Write(512, "x") })
}

func TestWriteKeepsSnaps(t *testing.T) { // 21.3: the map of now alone is another one
	_, m := made(t, small(), 200)
	s := some(1, 200*512)
	write(t, m, 0, s)
	id := snapshot(t, m, "one")
	was := m.State().Snaps
	write(t, m, 64*512-3, "new and new")
	is(t, "Zero", m.Zero(512, 2000), api.OK)
	is(t, "Discard", m.Discard(100*512, 99*512), api.OK)
	if now := m.State().Snaps; !same(was, now) {
		t.Error("the snapshot's map is another one")
	}
	readsSnap(t, m, id, 0, s)
	is(t, "Revert", m.Revert(id), api.OK)
	write(t, m, 5, strings.Repeat("r", 600))
	readsSnap(t, m, id, 0, s)
	reads(t, m, 0, s[:5]+strings.Repeat("r", 600)+s[605:])
}
