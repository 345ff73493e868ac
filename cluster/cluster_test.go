package cluster_test

import (
	"math"
	"slices"
	"strings"
	"testing"

	"caulk/api"
	"caulk/cluster"
	"caulk/crc"
	"caulk/dev"
	"caulk/geom"
)

// noise is n bytes without a pattern, always the same ones for one seed.
func noise(seed uint32, n int) string {
	l := make([]byte, n)
	for i := range l {
		seed = seed*1664525 + 1013904223
		l[i] = byte(seed >> 24)
	}
	return string(l)
}

// shape is a geometry of eight clusters.
func shape(shift int) api.Geom {
	return api.Geom{Shift: shift, K: 2, M: 1, Clusters: 8}
}

// made is a device that a geometry fits, without a pattern.
func made(t *testing.T, g api.Geom) *dev.Dev {
	t.Helper()
	d, err := dev.Load(noise(77, geom.Sectors(g)*api.Sector))
	if err != api.OK {
		t.Fatalf("Load has the error %d", err)
	}
	return d
}

// is ends a test, if what a call answered is another error.
func is(t *testing.T, say string, got, want api.Errno) {
	t.Helper()
	if got != want {
		t.Fatalf("%s = %d, not %d", say, got, want)
	}
}

// raws ends a test, if a cluster is not read so.
func raws(t *testing.T, d *dev.Dev, g api.Geom, at int, want string, wantErr api.Errno) {
	t.Helper()
	if got, err := cluster.Raw(d, g, at); got != want || err != wantErr {
		t.Fatalf("Raw(%v, %d) = %.8x.. of %d, %d, not %.8x.. of %d, %d", g, at, got, len(got), err, want, len(want), wantErr)
	}
}

// wrong are geometries that are not right.
func wrong() []api.Geom {
	return []api.Geom{
		{},
		{Shift: -1, K: 2, M: 1, Clusters: 8},
		{Shift: 8, K: 2, M: 1, Clusters: 8},
		{Shift: math.MaxInt, K: 2, M: 1, Clusters: 8},
		{K: 0, M: 1, Clusters: 8},
		{K: 2, M: -1, Clusters: 8},
		{K: 2, M: 1, Clusters: 3},
		{K: 2, M: 1, Clusters: math.MinInt},
		{Shift: 7, K: 2, M: 1, Clusters: 257},
	}
}

func TestWrite(t *testing.T) { // 8.1, 8.3: each cluster where it lies, and nowhere else
	for shift := range api.MaxShift + 1 {
		g := shape(shift)
		d := made(t, g)
		size := geom.Size(g)
		want := d.Bytes()
		for _, at := range []int{0, 7, 3, 4, 3} {
			s := noise(uint32(100*shift+at), size)
			before := d.Writes()
			is(t, "Write", cluster.Write(d, g, at, s), api.OK)
			if got := d.Writes() - before; got != size/api.Sector {
				t.Fatalf("Write of %v wrote %d sectors", g, got)
			}
			raws(t, d, g, at, s, api.OK) // what waits is read, too
			is(t, "Flush", d.Flush(), api.OK)
			want = want[:at*size] + s + want[(at+1)*size:]
			if d.Bytes() != want {
				t.Fatalf("Write(%v, %d) wrote other bytes", g, at)
			}
			for other := range g.Clusters {
				raws(t, d, g, other, want[other*size:(other+1)*size], api.OK)
			}
		}
	}
}

func TestOrder(t *testing.T) { // 8.1: the sectors ahead of the one that fails are written, and no other
	g := shape(2)
	old := made(t, g).Bytes()
	s := noise(5, geom.Size(g))
	for fuse := range 5 {
		d := made(t, g)
		d.Fuse(fuse)
		wantErr := api.ErrDown
		if fuse == 4 {
			wantErr = api.OK
		}
		is(t, "Write", cluster.Write(d, g, 3, s), wantErr)
		if d.Writes() != fuse {
			t.Fatalf("%d sectors were written, not %d", d.Writes(), fuse)
		}
		d.Crash(true, true, true, true)
		cut := 3*geom.Size(g) + fuse*api.Sector
		if d.Bytes() != old[:3*geom.Size(g)]+s[:fuse*api.Sector]+old[cut:] {
			t.Fatalf("behind %d writes the device has other bytes", fuse)
		}
	}
}

func TestWriteWrong(t *testing.T) { // 8.1
	for shift := range api.MaxShift + 1 {
		g := shape(shift)
		d := made(t, g)
		size := geom.Size(g)
		good := noise(1, size)
		for _, at := range []int{-1, 8, 9, math.MinInt, math.MaxInt} {
			is(t, "Write outside", cluster.Write(d, g, at, good), api.ErrRange)
			is(t, "Write outside, too short", cluster.Write(d, g, at, ""), api.ErrRange)
			raws(t, d, g, at, "", api.ErrRange)
		}
		for _, n := range []int{0, 1, size - 1, size + 1, size - api.Sector, size + api.Sector, 2 * size} {
			is(t, "Write of another length", cluster.Write(d, g, 2, noise(1, n)), api.ErrForm)
		}
		for _, bad := range wrong() {
			for _, at := range []int{0, -1, 8} {
				is(t, "Write of a wrong geometry", cluster.Write(d, bad, at, good), api.ErrForm)
				is(t, "Write of a wrong geometry", cluster.Write(d, bad, at, ""), api.ErrForm)
				raws(t, d, bad, at, "", api.ErrForm)
			}
		}
		if d.Writes() != 0 {
			t.Fatalf("%d sectors were written", d.Writes())
		}
	}
}

func TestSmallDevice(t *testing.T) { // 8.1: a cluster that the device has in part, or not at all
	g := shape(1)
	d, err := dev.New(5)
	is(t, "New", err, api.OK)
	s := noise(3, geom.Size(g))
	is(t, "Write in part", cluster.Write(d, g, 2, s), api.ErrRange)
	if got, err := d.Read(4); got != s[:api.Sector] || err != api.OK {
		t.Fatalf("the sector ahead of the end was not written: %d", err)
	}
	is(t, "Write behind the end", cluster.Write(d, g, 3, s), api.ErrRange)
	if d.Writes() != 1 {
		t.Fatalf("%d sectors were written", d.Writes())
	}
	raws(t, d, g, 2, "", api.ErrRange)
	raws(t, d, g, 3, "", api.ErrRange)
	raws(t, d, g, 1, strings.Repeat("\x00", geom.Size(g)), api.OK)
}

func TestRawOfBad(t *testing.T) { // 8.1: the device's errors
	g := shape(2)
	for sector := range geom.Sectors(g) {
		d := made(t, g)
		is(t, "Erase", d.Erase(sector), api.OK)
		all := made(t, g).Bytes()
		for at := range g.Clusters {
			if at == sector/4 {
				raws(t, d, g, at, "", api.ErrBad)
				if got, err := cluster.Read(d, g, at, 0); got != "" || err != api.ErrBad {
					t.Fatalf("Read of a bad one = %d bytes, %d", len(got), err)
				}
				continue
			}
			raws(t, d, g, at, all[at*geom.Size(g):(at+1)*geom.Size(g)], api.OK)
		}
	}
	d := made(t, g)
	d.Fuse(0)
	is(t, "Flush", d.Flush(), api.ErrDown)
	raws(t, d, g, 0, "", api.ErrDown)
	raws(t, d, g, 8, "", api.ErrRange)
	if got, err := cluster.Read(d, g, 0, 0); got != "" || err != api.ErrDown {
		t.Fatalf("Read of one that is down = %d bytes, %d", len(got), err)
	}
	is(t, "Write", cluster.Write(d, g, 0, noise(1, geom.Size(g))), api.ErrDown)
	is(t, "Write", cluster.Write(d, g, 0, "short"), api.ErrForm)
}

func TestFirstError(t *testing.T) { // 8.1: of two errors the one of the sector that is ahead
	g := shape(2)
	d, err := dev.New(14)
	is(t, "New", err, api.OK)
	raws(t, d, g, 3, "", api.ErrRange)
	is(t, "Erase", d.Erase(13), api.OK)
	raws(t, d, g, 3, "", api.ErrBad) // the one behind it is not there at all
}

func TestRead(t *testing.T) { // 8.2, 8.3
	for shift := range api.MaxShift + 1 {
		g := shape(shift)
		d := made(t, g)
		for at := range g.Clusters {
			s := noise(uint32(at*31+shift), geom.Size(g))
			is(t, "Write", cluster.Write(d, g, at, s), api.OK)
			sum := crc.Sum(s)
			if got, err := cluster.Read(d, g, at, sum); got != s || err != api.OK {
				t.Fatalf("Read(%v, %d) = %.8x.., %d", g, at, got, err)
			}
			for _, other := range []uint32{0, sum + 1, sum - 1, ^sum, sum ^ 1<<31, crc.Sum(noise(1000, 512))} {
				if got, err := cluster.Read(d, g, at, other); got != "" || err != api.ErrBad {
					t.Fatalf("Read(%v, %d, of another sum) = %.8x.., %d", g, at, got, err)
				}
			}
		}
	}
}

func TestReadDamaged(t *testing.T) { // 8.2, 8.3: whichever byte is another one
	g := shape(1)
	s := noise(4, geom.Size(g))
	for i := range geom.Size(g) {
		d := made(t, g)
		is(t, "Write", cluster.Write(d, g, 5, s), api.OK)
		is(t, "Flush", d.Flush(), api.OK)
		off := min(i%api.Sector, api.Sector-4)
		is(t, "Garble", d.Garble(10+i/api.Sector, off, 1<<(8*(i%api.Sector-off))), api.OK)
		if got, err := cluster.Read(d, g, 5, crc.Sum(s)); got != "" || err != api.ErrBad {
			t.Fatalf("Read with byte %d garbled = %.8x.., %d", i, got, err)
		}
		raws(t, d, g, 5, s[:i]+string([]byte{s[i] ^ 1})+s[i+1:], api.OK)
	}
}

func TestReadWrong(t *testing.T) { // 8.2: Raw's errors
	g := shape(0)
	d := made(t, g)
	for _, at := range []int{-1, 8, math.MinInt, math.MaxInt} {
		if got, err := cluster.Read(d, g, at, 0); got != "" || err != api.ErrRange {
			t.Errorf("Read(%d) = %d bytes, %d", at, len(got), err)
		}
	}
	for _, bad := range wrong() {
		if got, err := cluster.Read(d, bad, 0, crc.Sum("")); got != "" || err != api.ErrForm {
			t.Errorf("Read(%v) = %d bytes, %d", bad, len(got), err)
		}
	}
}

func TestFill(t *testing.T) { // 8.2
	for shift := range api.MaxShift + 1 {
		g := shape(shift)
		size := geom.Size(g)
		for _, n := range []int{0, 1, 2, 100, 511, 512, size / 2, size - 1, size} {
			s := noise(9, n)
			got, err := cluster.Fill(g, s)
			want := slices.Concat([]byte(s), make([]byte, size-n))
			if got != string(want) || err != api.OK {
				t.Errorf("Fill(%v, of %d bytes) = %d bytes, %d", g, n, len(got), err)
			}
		}
		for _, n := range []int{size + 1, size + 2, 2 * size, 1 << 17} {
			if got, err := cluster.Fill(g, noise(9, n)); got != "" || err != api.ErrLong {
				t.Errorf("Fill(%v, of %d bytes) = %d bytes, %d", g, n, len(got), err)
			}
		}
	}
	for _, bad := range wrong() {
		for _, s := range []string{"", "a", noise(1, 512), noise(1, 1<<17)} {
			if got, err := cluster.Fill(bad, s); got != "" || err != api.ErrForm {
				t.Errorf("Fill(%v, of %d bytes) = %d bytes, %d", bad, len(s), len(got), err)
			}
		}
	}
}
