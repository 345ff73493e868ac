package super_test

import (
	"encoding/binary"
	"hash/crc32"
	"math"
	"slices"
	"strings"
	"testing"

	"caulk/api"
	"caulk/dev"
	"caulk/super"
)

// made is a superblock that is right.
func made() api.Super {
	return api.Super{
		Gen:    7,
		Geom:   api.Geom{Shift: 1, K: 4, M: 2, Clusters: 100},
		Length: 5000,
		Root:   api.Ptr{A: 2, B: 99, Sum: 0x01020304},
	}
}

// but is a superblock that is right but for what is changed.
func but(change func(*api.Super)) api.Super {
	s := made()
	change(&s)
	return s
}

// edges are superblocks that are right, each on an edge.
func edges() []api.Super {
	return []api.Super{
		made(),
		but(func(s *api.Super) { s.Gen = 1 }),
		but(func(s *api.Super) { s.Gen = api.MaxGen }),
		but(func(s *api.Super) { s.Gen = api.MaxGen - 1 }),
		but(func(s *api.Super) { s.Length = 0 }),
		but(func(s *api.Super) { s.Length = api.MaxBlob }),
		but(func(s *api.Super) { s.Root = api.Ptr{A: 99, B: 2} }),
		but(func(s *api.Super) { s.Root = api.Ptr{A: 5, B: 5, Sum: math.MaxUint32} }),
		but(func(s *api.Super) { s.Geom = api.Geom{K: 1, Clusters: api.MinClusters}; s.Root.B = 3 }),
		but(func(s *api.Super) {
			s.Geom = api.Geom{K: 255, Clusters: api.MaxClusters}
			s.Root.A = api.MaxClusters - 1
		}),
		but(func(s *api.Super) { s.Geom = api.Geom{K: 1, M: 254, Clusters: 200} }),
		but(func(s *api.Super) { s.Geom = api.Geom{Shift: 7, K: 2, M: 1, Clusters: 256}; s.Root.B = 255 }),
	}
}

// wrong are superblocks that are not right.
func wrong() []api.Super {
	return []api.Super{
		{},
		but(func(s *api.Super) { s.Gen = 0 }),
		but(func(s *api.Super) { s.Gen = -1 }),
		but(func(s *api.Super) { s.Gen = api.MaxGen + 1 }),
		but(func(s *api.Super) { s.Gen = math.MaxInt64 }),
		but(func(s *api.Super) { s.Gen = math.MinInt64 }),
		but(func(s *api.Super) { s.Geom = api.Geom{} }),
		but(func(s *api.Super) { s.Geom.Shift = -1 }),
		but(func(s *api.Super) { s.Geom.Shift = 8 }),
		but(func(s *api.Super) { s.Geom.Shift = 257 }),
		but(func(s *api.Super) { s.Geom.K = 0 }),
		but(func(s *api.Super) { s.Geom.K = 254 }),
		but(func(s *api.Super) { s.Geom.K = 260 }),
		but(func(s *api.Super) { s.Geom.M = -1 }),
		but(func(s *api.Super) { s.Geom.M = 252 }),
		but(func(s *api.Super) { s.Geom.Clusters = 3 }),
		but(func(s *api.Super) { s.Geom.Clusters = 4097 }),
		but(func(s *api.Super) { s.Geom.Clusters = 99 }), // the root is at 99
		but(func(s *api.Super) { s.Geom.Clusters = math.MaxInt }),
		but(func(s *api.Super) { s.Geom = api.Geom{Shift: 7, K: 2, M: 1, Clusters: 257} }),
		but(func(s *api.Super) { s.Length = -1 }),
		but(func(s *api.Super) { s.Length = api.MaxBlob + 1 }),
		but(func(s *api.Super) { s.Length = math.MinInt }),
		but(func(s *api.Super) { s.Root.A = 1 }),
		but(func(s *api.Super) { s.Root.B = 1 }),
		but(func(s *api.Super) { s.Root.A = 0 }),
		but(func(s *api.Super) { s.Root.B = 0 }),
		but(func(s *api.Super) { s.Root.A = -3 }),
		but(func(s *api.Super) { s.Root.B = math.MinInt }),
		but(func(s *api.Super) { s.Root.A = 100 }),
		but(func(s *api.Super) { s.Root.B = 100 }),
		but(func(s *api.Super) { s.Root.B = math.MaxInt }),
	}
}

// sealed is what is ahead of a sum, with that behind it, and 00 up to a sector.
func sealed(body []byte) string {
	sum := crc32.Checksum(body, crc32.MakeTable(crc32.Castagnoli))
	all := binary.LittleEndian.AppendUint32(slices.Clone(body), sum)
	return string(all) + strings.Repeat("\x00", 512-len(all))
}

// body is what is ahead of the sum, without a call of the program, of any numbers.
func body(s api.Super) []byte {
	b := []byte("caulk 01")
	b = binary.LittleEndian.AppendUint64(b, uint64(s.Gen))
	b = append(b, byte(s.Geom.Shift), byte(s.Geom.K), byte(s.Geom.M), 0)
	for _, n := range []int{s.Geom.Clusters, s.Length, s.Root.A, s.Root.B} {
		b = binary.LittleEndian.AppendUint32(b, uint32(n))
	}
	return binary.LittleEndian.AppendUint32(b, s.Root.Sum)
}

// bytes is a right superblock's bytes.
func bytes(t *testing.T, s api.Super) string {
	t.Helper()
	b, err := super.Bytes(s)
	is(t, "Bytes", err, api.OK)
	return b
}

// blank is a device of so many sectors.
func blank(t *testing.T, sectors int) *dev.Dev {
	t.Helper()
	d, err := dev.New(sectors)
	is(t, "New", err, api.OK)
	return d
}

// is ends a test, if what a call answered is another error.
func is(t *testing.T, say string, got, want api.Errno) {
	t.Helper()
	if got != want {
		t.Fatalf("%s = %d, not %d", say, got, want)
	}
}

// finds ends a test, if other superblocks are found.
func finds(t *testing.T, d *dev.Dev, want ...api.Slot) {
	t.Helper()
	if got, err := super.Find(d); !slices.Equal(got, want) || err != api.OK {
		t.Fatalf("Find = %v, %d, not %v", got, err, want)
	}
}

// heals ends a test, if other sectors are told.
func heals(t *testing.T, d *dev.Dev, s api.Super, want ...api.Copy) {
	t.Helper()
	if got, err := super.Heal(d, s); !slices.Equal(got, want) || err != api.OK {
		t.Fatalf("Heal = %v, %d, not %v", got, err, want)
	}
}

func TestCheck(t *testing.T) { // 10.1
	for _, s := range edges() {
		if err := super.Check(s); err != api.OK {
			t.Errorf("Check(%v) = %d", s, err)
		}
	}
	for _, s := range wrong() {
		if err := super.Check(s); err != api.ErrForm {
			t.Errorf("Check(%v) = %d", s, err)
		}
	}
}

func TestBytes(t *testing.T) { // 10.1
	want := "caulk 01" + "\x07\x00\x00\x00\x00\x00\x00\x00" + "\x01\x04\x02\x00" +
		"\x64\x00\x00\x00" + "\x88\x13\x00\x00" + "\x02\x00\x00\x00\x63\x00\x00\x00\x04\x03\x02\x01"
	if got := bytes(t, made()); len(got) != 512 || got[:40] != want || got != sealed([]byte(want)) {
		t.Errorf("Bytes = %x", got)
	}
	for _, s := range edges() {
		if got := bytes(t, s); got != sealed(body(s)) {
			t.Errorf("Bytes(%v) = %x", s, got[:48])
		}
	}
	for _, s := range wrong() {
		if got, err := super.Bytes(s); got != "" || err != api.ErrForm {
			t.Errorf("Bytes(%v) = %d bytes, %d", s, len(got), err)
		}
	}
}

func TestParse(t *testing.T) { // 10.1, 10.5
	for _, s := range edges() {
		if got, err := super.Parse(bytes(t, s)); got != s || err != api.OK {
			t.Errorf("Parse = %v, %d, not %v", got, err, s)
		}
	}
	seed := uint64(1)
	next := func(n int) int {
		seed = seed*6364136223846793005 + 1442695040888963407
		return int(seed>>33) % n
	}
	for range 2000 {
		g := api.Geom{Shift: next(8), K: 1 + next(128), M: next(127)}
		g.Clusters = 4 + next(min(4096, 32768>>g.Shift)-3)
		s := api.Super{Gen: 1 + int64(next(1<<30))*int64(next(1<<17)), Geom: g, Length: next(api.MaxBlob + 1)}
		s.Root = api.Ptr{A: 2 + next(g.Clusters-2), B: 2 + next(g.Clusters-2), Sum: uint32(next(1 << 30))}
		b := bytes(t, s)
		if got, err := super.Parse(b); b != sealed(body(s)) || got != s || err != api.OK {
			t.Fatalf("Parse = %v, %d, not %v", got, err, s)
		}
	}
}

func TestParseWrong(t *testing.T) { // 10.1: bytes that are no superblock's
	good := bytes(t, made())
	fails := func(say, sector string) {
		t.Helper()
		if got, err := super.Parse(sector); got != (api.Super{}) || err != api.ErrCode {
			t.Errorf("Parse of %s = %v, %d", say, got, err)
		}
	}
	for n := range 512 {
		fails("a part", good[:n])
		for bit := range 8 {
			fails("a bit turned round", good[:n]+string([]byte{good[n] ^ 1<<bit})+good[n+1:])
		}
	}
	fails("a byte more", good+"\x00")
	fails("a byte ahead", "\x00"+good)
	fails("two of them", good+good)
	fails("blanks", strings.Repeat(" ", 512))
	fails("00", strings.Repeat("\x00", 512))
	fails("ff", strings.Repeat("\xff", 512))
	for _, s := range wrong() {
		if s.Geom.Shift < 256 && s.Geom.K < 256 && s.Length > math.MinInt { // there is no room for greater ones: their bytes are a right one's
			fails("a wrong one, with its sum", sealed(body(s)))
		}
	}
	for at, by := range map[int]byte{0: 'C', 5: '_', 7: '2', 15: 0x80, 14: 2, 19: 1, 16: 8, 17: 0, 18: 254, 23: 1, 26: 0x11, 27: 0xff, 28: 1, 31: 0xff, 35: 0x80, 32: 0x01} {
		b := body(made())
		b[at] = by
		fails("another byte, with the sum", sealed(b))
	}
	fails("one too short, with the sum", sealed(body(made())[:39]))
	fails("one too long, with the sum", sealed(append(body(made()), 0)))
}

func TestWrite(t *testing.T) { // 10.2, 10.6
	for slot := range 2 {
		d := blank(t, 200)
		is(t, "Write", super.Write(d, slot, made()), api.OK)
		if !slices.Equal(d.Waiting(), []int{slot}) {
			t.Errorf("the sectors %v wait", d.Waiting())
		}
		finds(t, d, api.Slot{Slot: slot, Super: made()}) // what waits is found, too
		is(t, "Flush", d.Flush(), api.OK)
		if got, err := d.Read(slot); got != sealed(body(made())) || err != api.OK {
			t.Errorf("the slot %d has %.40x.., %d", slot, got, err)
		}
		finds(t, d, api.Slot{Slot: slot, Super: made()})
	}
}

func TestWriteWrong(t *testing.T) { // 10.2
	d := blank(t, 200)
	for _, slot := range []int{-1, 2, 3, math.MinInt, math.MaxInt} {
		is(t, "Write to no slot", super.Write(d, slot, made()), api.ErrRange)
		is(t, "Write of nothing to no slot", super.Write(d, slot, api.Super{}), api.ErrRange)
	}
	for _, s := range wrong() {
		is(t, "Write of a wrong one", super.Write(d, 0, s), api.ErrForm)
	}
	if d.Writes() != 0 {
		t.Errorf("%d sectors were written", d.Writes())
	}
	is(t, "Write to a device of one sector", super.Write(blank(t, 1), 1, made()), api.ErrRange)
	d.Fuse(0)
	is(t, "Write of a wrong one", super.Write(d, 0, api.Super{}), api.ErrForm) // ahead of ErrDown
	is(t, "Write", super.Write(d, 0, made()), api.ErrDown)
	is(t, "Write to no slot", super.Write(d, 2, made()), api.ErrRange)
}

func TestFind(t *testing.T) { // 10.2: the greatest generation first, of one the slot 0
	gen := func(n int64) api.Super { return but(func(s *api.Super) { s.Gen = n }) }
	for _, x := range []struct{ zero, one int64 }{{1, 2}, {2, 1}, {9, 9}, {api.MaxGen, 1}, {1, api.MaxGen}, {1 << 32, 1<<32 + 1}} {
		d := blank(t, 200)
		finds(t, d)
		is(t, "Write", super.Write(d, 0, gen(x.zero)), api.OK)
		is(t, "Write", super.Write(d, 1, gen(x.one)), api.OK)
		zero, one := api.Slot{Slot: 0, Super: gen(x.zero)}, api.Slot{Slot: 1, Super: gen(x.one)}
		if x.zero >= x.one {
			finds(t, d, zero, one)
		} else {
			finds(t, d, one, zero)
		}
		is(t, "Flush", d.Flush(), api.OK)
		d.Erase(0)
		finds(t, d, one)
		d.Garble(1, 43, 1)
		finds(t, d)
		is(t, "Write", super.Write(d, 0, gen(x.zero)), api.OK)
		finds(t, d, zero)
	}
}

func TestFindRoom(t *testing.T) { // 10.2: of those alone that the device has room for
	great := but(func(s *api.Super) { s.Geom.Clusters = 101; s.Gen = 8 })
	for _, x := range []struct {
		sectors int
		want    []api.Slot
	}{
		{1, nil},
		{199, nil},
		{200, []api.Slot{{Slot: 0, Super: made()}}},
		{201, []api.Slot{{Slot: 0, Super: made()}}},
		{202, []api.Slot{{Slot: 1, Super: great}, {Slot: 0, Super: made()}}},
		{1000, []api.Slot{{Slot: 1, Super: great}, {Slot: 0, Super: made()}}},
	} {
		d := blank(t, x.sectors)
		is(t, "Write", super.Write(d, 0, made()), api.OK)
		if x.sectors > 1 {
			is(t, "Write", super.Write(d, 1, great), api.OK)
		}
		finds(t, d, x.want...)
	}
	d := blank(t, 1) // one sector alone: no geometry has room
	is(t, "Write", super.Write(d, 0, but(func(s *api.Super) { s.Geom = api.Geom{K: 1, Clusters: 4}; s.Root.B = 3 })), api.OK)
	finds(t, d)
}

func TestFindElsewhere(t *testing.T) { // 10.2: in the slots alone
	d := blank(t, 300)
	for at := 2; at < 8; at++ {
		is(t, "Write", d.Write(at, bytes(t, made())), api.OK)
	}
	finds(t, d)
}

func TestFindDown(t *testing.T) { // 10.2
	d := blank(t, 200)
	is(t, "Write", super.Write(d, 0, made()), api.OK)
	is(t, "Flush", d.Flush(), api.OK)
	d.Fuse(0)
	finds(t, d, api.Slot{Slot: 0, Super: made()}) // not down as yet
	is(t, "Flush", d.Flush(), api.ErrDown)
	if got, err := super.Find(d); got != nil || err != api.ErrDown {
		t.Errorf("Find = %v, %d", got, err)
	}
	d.Crash()
	finds(t, d, api.Slot{Slot: 0, Super: made()})
}

func TestHeal(t *testing.T) { // 10.3
	zero, one := api.Copy{At: 0, Healed: true}, api.Copy{At: 1, Healed: true}
	d := blank(t, 200)
	heals(t, d, made(), zero, one)
	heals(t, d, made())
	if d.Writes() != 2 {
		t.Errorf("%d sectors were written", d.Writes())
	}
	is(t, "Flush", d.Flush(), api.OK)
	both := []api.Slot{{Slot: 0, Super: made()}, {Slot: 1, Super: made()}}
	for _, x := range []struct {
		hurt func()
		want []api.Copy
	}{
		{func() {}, nil},
		{func() { d.Erase(0) }, []api.Copy{zero}},
		{func() { d.Erase(1) }, []api.Copy{one}},
		{func() { d.Garble(0, 0, 1) }, []api.Copy{zero}},
		{func() { d.Garble(1, 508, 1<<31) }, []api.Copy{one}}, // behind the sum, too
		{func() { d.Erase(1); d.Garble(0, 41, 9) }, []api.Copy{zero, one}},
		{func() { super.Write(d, 1, but(func(s *api.Super) { s.Gen = 8 })) }, []api.Copy{one}}, // a right one, but another one
		{func() { super.Write(d, 0, but(func(s *api.Super) { s.Root.Sum++ })); d.Erase(1) }, []api.Copy{zero, one}},
		{func() { d.Erase(2); d.Garble(3, 0, 1) }, nil},
	} {
		x.hurt()
		before := d.Writes()
		heals(t, d, made(), x.want...)
		if d.Writes() != before+len(x.want) {
			t.Errorf("%d sectors were written, not %d", d.Writes()-before, len(x.want))
		}
		finds(t, d, both...)
		is(t, "Flush", d.Flush(), api.OK)
		heals(t, d, made())
		finds(t, d, both...)
		if d.Bytes()[:1024] != strings.Repeat(sealed(body(made())), 2) {
			t.Error("the slots have other bytes")
		}
	}
}

func TestHealWrong(t *testing.T) { // 10.3
	for _, s := range wrong() {
		d := blank(t, 200)
		if got, err := super.Heal(d, s); got != nil || err != api.ErrForm || d.Writes() != 0 {
			t.Errorf("Heal(%v) = %v, %d, and wrote %d", s, got, err, d.Writes())
		}
	}
	fails := func(d *dev.Dev, s api.Super, want api.Errno) {
		t.Helper()
		if got, err := super.Heal(d, s); got != nil || err != want {
			t.Errorf("Heal = %v, %d, not %d", got, err, want)
		}
	}
	d := blank(t, 1)
	fails(d, made(), api.ErrRange) // Write's error of the slot 1
	if !slices.Equal(d.Waiting(), []int{0}) {
		t.Errorf("the sectors %v wait", d.Waiting())
	}
	for fuse := range 2 {
		d := blank(t, 200)
		d.Fuse(fuse)
		fails(d, made(), api.ErrDown)
		if d.Writes() != fuse {
			t.Errorf("%d sectors were written, not %d", d.Writes(), fuse)
		}
		fails(d, api.Super{}, api.ErrForm) // ahead of ErrDown
		fails(d, made(), api.ErrDown)
	}
	d = blank(t, 200)
	heals(t, d, made(), api.Copy{At: 0, Healed: true}, api.Copy{At: 1, Healed: true})
	d.Fuse(0)
	heals(t, d, made()) // nothing is to be written
	is(t, "Flush", d.Flush(), api.ErrDown)
	fails(d, made(), api.ErrDown)
}

func TestSmallDevice(t *testing.T) { // 10.3: s may be too great for the device: it is written all the same
	d := blank(t, 2)
	heals(t, d, made(), api.Copy{At: 0, Healed: true}, api.Copy{At: 1, Healed: true})
	finds(t, d)
}

func TestNew(t *testing.T) { // 10.4
	d := blank(t, 200)
	first, err := super.Heal(d, made())
	is(t, "Heal", err, api.OK)
	slots, err := super.Find(d)
	is(t, "Find", err, api.OK)
	clear(first)
	clear(slots)
	finds(t, d, api.Slot{Slot: 0, Super: made()}, api.Slot{Slot: 1, Super: made()})
	heals(t, d, made())
}
