package pages_test

import (
	"encoding/binary"
	"hash/crc32"
	"math"
	"slices"
	"strings"
	"testing"

	"caulk/api"
	"caulk/cluster"
	"caulk/crc"
	"caulk/dev"
	"caulk/geom"
	"caulk/pages"
)

// noise is n bytes without a pattern, always the same ones for one seed.
func noise(seed uint32, n int) string {
	l := make([]byte, n)
	for i := range l {
		seed = seed*1664525 + 1013904223
		l[i] = byte(seed >> 24)
	}
	return string(l)
}

// small and wide are geometries of the least clusters, and of greater ones.
var (
	small = api.Geom{K: 2, M: 1, Clusters: api.MaxClusters}
	wide  = api.Geom{Shift: 3, K: 2, M: 1, Clusters: 600}
)

// wrong are geometries that are not right.
func wrong() []api.Geom {
	return []api.Geom{
		{},
		{Shift: -1, K: 2, M: 1, Clusters: 8},
		{Shift: 8, K: 2, M: 1, Clusters: 8},
		{Shift: math.MinInt, K: 2, M: 1, Clusters: 8},
		{K: 0, M: 1, Clusters: 8},
		{K: 2, M: -1, Clusters: 8},
		{K: 200, M: 56, Clusters: 8},
		{K: 2, M: 1, Clusters: 3},
		{Shift: 7, K: 2, M: 1, Clusters: 257},
	}
}

// is ends a test, if what a call answered is another error.
func is(t *testing.T, say string, got, want api.Errno) {
	t.Helper()
	if got != want {
		t.Fatalf("%s = %d, not %d", say, got, want)
	}
}

// row is so many clusters, from one on, that follow one another.
func row(from, many int) []int {
	l := make([]int, many)
	for i := range l {
		l[i] = from + i
	}
	return l
}

// spread is so many clusters of a geometry, from 2 on, in no order, all unlike.
func spread(t *testing.T, g api.Geom, many int) []int {
	t.Helper()
	if many > g.Clusters-2 {
		t.Fatalf("there are no %d clusters", many)
	}
	l := row(2, g.Clusters-2)
	seed := uint32(many)
	for i := range l {
		seed = seed*1664525 + 1013904223
		j := int(seed>>8) % len(l)
		l[i], l[j] = l[j], l[i]
	}
	return l[:many]
}

// cut is s in pieces of n bytes, each with 00 behind it up to size; of no bytes one.
func cut(s string, n, size int) []string {
	var l []string
	for len(s) > n {
		l = append(l, s[:n])
		s = s[n:]
	}
	l = append(l, s)
	for i := range l {
		l[i] += strings.Repeat("\x00", size-len(l[i]))
	}
	return l
}

// byHand is all pages of blob, level by level, and without a call of the program.
func byHand(g api.Geom, blob string, at []int) []api.Page {
	size := 512
	for range g.Shift {
		size *= 2
	}
	var all []api.Page
	level := cut(blob, size, size)
	for {
		var next []byte
		for _, data := range level {
			p := api.Ptr{A: at[0], B: at[1], Sum: crc32.Checksum([]byte(data), crc32.MakeTable(crc32.Castagnoli))}
			at = at[2:]
			all = append(all, api.Page{Ptr: p, Data: data})
			next = binary.LittleEndian.AppendUint32(next, uint32(p.A))
			next = binary.LittleEndian.AppendUint32(next, uint32(p.B))
			next = binary.LittleEndian.AppendUint32(next, p.Sum)
		}
		if len(level) == 1 {
			return all
		}
		level = cut(string(next), size/12*12, size)
	}
}

// ptrs is the pointers of these pages.
func ptrs(l []api.Page) []api.Ptr {
	var all []api.Ptr
	for _, p := range l {
		all = append(all, p.Ptr)
	}
	return all
}

// tree is a tree of pages, and the device that it was written to.
type tree struct {
	g    api.Geom
	d    *dev.Dev
	blob string
	l    []api.Page
	root api.Ptr
}

// grown is a device to which the pages of blob were written, and flushed.
func grown(t *testing.T, g api.Geom, blob string) tree {
	t.Helper()
	count, err := pages.Count(g, len(blob))
	is(t, "Count", err, api.OK)
	l, root, err := pages.Build(g, blob, spread(t, g, 2*count))
	is(t, "Build", err, api.OK)
	d, err := dev.Load(noise(99, geom.Sectors(g)*api.Sector))
	is(t, "Load", err, api.OK)
	is(t, "Write", pages.Write(d, g, l), api.OK)
	is(t, "Flush", d.Flush(), api.OK)
	return tree{g: g, d: d, blob: blob, l: l, root: root}
}

// spoil makes a cluster bad: every second one by an erased sector, the others by a garbled one.
func (x tree) spoil(t *testing.T, at int) {
	t.Helper()
	first, err := geom.First(x.g, at)
	is(t, "First", err, api.OK)
	if at%2 == 0 {
		is(t, "Erase", x.d.Erase(first+at/2%(1<<x.g.Shift)), api.OK)
		return
	}
	is(t, "Garble", x.d.Garble(first, at%509, 1<<(at%32)), api.OK)
}

// loads ends a test, if the tree is not loaded as it was built.
func (x tree) loads(t *testing.T) {
	t.Helper()
	got, l, err := pages.Load(x.d, x.g, x.root, len(x.blob))
	if got != x.blob || !slices.Equal(l, ptrs(x.l)) || err != api.OK {
		t.Fatalf("Load(of %d bytes) = %d bytes, %d pointers, %d", len(x.blob), len(got), len(l), err)
	}
}

// fails ends a test, if the tree is loaded, or another error is answered, or something beside it.
func (x tree) fails(t *testing.T, want api.Errno) {
	t.Helper()
	got, l, err := pages.Load(x.d, x.g, x.root, len(x.blob))
	if got != "" || l != nil || err != want {
		t.Fatalf("Load(of %d bytes) = %d bytes, %d pointers, %d, not %d", len(x.blob), len(got), len(l), err, want)
	}
}

// heals ends a test, if other copies are told, or other ones written anew.
func (x tree) heals(t *testing.T, l []api.Ptr, want ...api.Copy) {
	t.Helper()
	got, err := pages.Heal(x.d, x.g, l)
	if !slices.Equal(got, want) || err != api.OK {
		t.Fatalf("Heal = %v, %d, not %v", got, err, want)
	}
}

// read ends a test, if a copy is not what its page is.
func (x tree) read(t *testing.T, at int, p api.Page) {
	t.Helper()
	if got, err := cluster.Read(x.d, x.g, at, p.Ptr.Sum); got != p.Data || err != api.OK {
		t.Fatalf("the copy at %d = %d bytes, %d", at, len(got), err)
	}
}

func TestCount(t *testing.T) { // 9.1
	for _, x := range []struct{ shift, n, want int }{
		{0, 0, 1}, {0, 1, 1}, {0, 511, 1}, {0, 512, 1}, {0, 513, 3}, {0, 1024, 3}, {0, 1025, 4},
		{0, 42 * 512, 43}, {0, 42*512 + 1, 46}, {0, 84 * 512, 87}, {0, 84*512 + 1, 85 + 3 + 1},
		{0, 42 * 42 * 512, 42*42 + 42 + 1}, {0, 42*42*512 + 1, 1765 + 43 + 2 + 1}, {0, api.MaxBlob, 2048 + 49 + 2 + 1},
		{1, 0, 1}, {1, 1024, 1}, {1, 1025, 3}, {1, 85 * 1024, 86}, {1, 85*1024 + 1, 89}, {1, api.MaxBlob, 1024 + 13 + 1},
		{3, 4096, 1}, {3, 4097, 3}, {3, api.MaxBlob, 257},
		{7, 65536, 1}, {7, 65537, 3}, {7, api.MaxBlob, 17},
	} {
		g := api.Geom{Shift: x.shift, K: 2, M: 1, Clusters: 10} // pages may be more than there are clusters
		if got, err := pages.Count(g, x.n); got != x.want || err != api.OK {
			t.Errorf("Count(%v, %d) = %d, %d, not %d", g, x.n, got, err, x.want)
		}
	}
}

func TestCountWrong(t *testing.T) { // 9.1
	for _, n := range []int{-1, -512, api.MaxBlob + 1, 2 * api.MaxBlob, math.MaxInt, math.MinInt, 1 << 32} {
		if got, err := pages.Count(small, n); got != 0 || err != api.ErrRange {
			t.Errorf("Count(%d) = %d, %d", n, got, err)
		}
	}
	for _, g := range wrong() {
		for _, n := range []int{0, 1, 1000, api.MaxBlob, -1, math.MaxInt} {
			if got, err := pages.Count(g, n); got != 0 || err != api.ErrForm {
				t.Errorf("Count(%v, %d) = %d, %d", g, n, got, err)
			}
		}
	}
}

func TestBuild(t *testing.T) { // 9.1: against the same, made by hand
	for shift := range api.MaxShift + 1 {
		g := api.Geom{Shift: shift, K: 2, M: 1, Clusters: 10}
		size := 512 << shift
		fan := size / 12
		for _, n := range []int{0, 1, 100, size - 1, size, size + 1, 2 * size, 3*size - 5, fan * size, fan*size + 1, 2*fan*size + size/2, api.MaxBlob - 1, api.MaxBlob} {
			if n > api.MaxBlob {
				continue
			}
			blob := noise(uint32(n), n)
			count, err := pages.Count(g, n)
			is(t, "Count", err, api.OK)
			at := row(n+7, 2*count)
			was := slices.Clone(at)
			l, root, err := pages.Build(g, blob, at)
			want := byHand(g, blob, at)
			if !slices.Equal(l, want) || len(l) != count || err != api.OK {
				t.Fatalf("Build(%v, of %d bytes) = %d pages, %d, not %d", g, n, len(l), err, len(want))
			}
			if root != l[len(l)-1].Ptr {
				t.Fatalf("Build(%v, of %d bytes) has the root %v", g, n, root)
			}
			if !slices.Equal(at, was) {
				t.Fatalf("Build changed what was handed in")
			}
		}
	}
}

func TestBuildClusters(t *testing.T) { // 9.1: any clusters that a pointer can have, the same one twice, too
	blob := noise(1, 600)
	at := []int{0, math.MaxUint32, 5, 5, math.MaxUint32, 1}
	l, root, err := pages.Build(small, blob, at)
	if !slices.Equal(l, byHand(small, blob, at)) || err != api.OK {
		t.Fatalf("Build = %d pages, %d", len(l), err)
	}
	if root.A != math.MaxUint32 || root.B != 1 || root.Sum != crc.Sum(l[2].Data) {
		t.Errorf("the root is %v", root)
	}
	if l[2].Data[:12] != "\x00\x00\x00\x00\xff\xff\xff\xff"+crc.Bytes(blob[:512]) {
		t.Errorf("the root begins with %x", l[2].Data[:12])
	}
}

func TestBuildWrong(t *testing.T) { // 9.1
	fails := func(say string, g api.Geom, blob string, at []int, want api.Errno) {
		t.Helper()
		if l, root, err := pages.Build(g, blob, at); l != nil || root != (api.Ptr{}) || err != want {
			t.Errorf("Build of %s = %d pages, %v, %d, not %d", say, len(l), root, err, want)
		}
	}
	blob := noise(1, 600)
	for _, n := range []int{0, 1, 2, 3, 4, 5, 7, 8, 12, 100} {
		fails("too few or too many clusters", small, blob, row(2, n), api.ErrForm)
	}
	for _, n := range []int{0, 1, 3, 4} {
		fails("too few or too many clusters of no bytes", small, "", row(2, n), api.ErrForm)
	}
	for i := range 6 {
		for _, c := range []int{-1, -2, math.MinInt, math.MaxUint32 + 1, math.MaxInt} {
			at := row(2, 6)
			at[i] = c
			fails("a cluster that no pointer can have", small, blob, at, api.ErrForm)
		}
	}
	long := strings.Repeat("a", api.MaxBlob+1)
	fails("too many bytes", small, long, row(2, 2*2100), api.ErrRange)
	fails("too many bytes, without clusters", small, long, nil, api.ErrRange)
	fails("too many bytes, and wrong clusters", small, long, row(-2, 2*2100), api.ErrRange)
	for _, g := range wrong() {
		fails("a wrong geometry", g, blob, row(2, 6), api.ErrForm)
		fails("a wrong geometry, and no bytes", g, "", nil, api.ErrForm)
		fails("a wrong geometry, and too many bytes", g, long, nil, api.ErrForm)
	}
}

func TestWrite(t *testing.T) { // 9.1: both copies, and nothing else
	for _, g := range []api.Geom{small, wide} {
		blob := noise(6, 9*geom.Size(g)+3)
		x := grown(t, g, blob)
		want := []byte(noise(99, geom.Sectors(g)*api.Sector))
		for _, p := range x.l {
			for _, at := range []int{p.Ptr.A, p.Ptr.B} {
				copy(want[at*geom.Size(g):], p.Data)
			}
		}
		if x.d.Bytes() != string(want) {
			t.Fatalf("Write of %v wrote other bytes", g)
		}
		if got := x.d.Writes(); got != 2*len(x.l)<<g.Shift {
			t.Errorf("Write of %d pages wrote %d sectors", len(x.l), got)
		}
	}
}

func TestWriteOrder(t *testing.T) { // 9.1: page by page, A and then B, up to the first error
	g := api.Geom{K: 2, M: 1, Clusters: 10}
	l, _, err := pages.Build(g, noise(1, 600), []int{9, 4, 3, 8, 2, 7})
	is(t, "Build", err, api.OK)
	order := []int{9, 4, 3, 8, 2, 7}
	for fuse := range 8 {
		d, err := dev.New(10)
		is(t, "New", err, api.OK)
		d.Fuse(fuse)
		want := api.ErrDown
		if fuse >= len(order) {
			want = api.OK
		}
		is(t, "Write", pages.Write(d, g, l), want)
		written := slices.Sorted(slices.Values(order[:min(fuse, len(order))]))
		if !slices.Equal(d.Waiting(), written) {
			t.Fatalf("behind %d writes the sectors %v wait, not %v", fuse, d.Waiting(), written)
		}
	}
}

func TestWriteTwice(t *testing.T) { // 9.1: what is written to one cluster last is what stands there
	g := api.Geom{K: 2, M: 1, Clusters: 10}
	page := func(a, b int, fill string) api.Page {
		return api.Page{Ptr: api.Ptr{A: a, B: b}, Data: strings.Repeat(fill, 512)}
	}
	d, err := dev.New(10)
	is(t, "New", err, api.OK)
	is(t, "Write", pages.Write(d, g, []api.Page{page(5, 6, "a"), page(6, 7, "b"), page(8, 5, "c")}), api.OK)
	for at, fill := range map[int]string{5: "c", 6: "b", 7: "b", 8: "c", 4: "\x00"} {
		if got, err := d.Read(at); got != strings.Repeat(fill, 512) || err != api.OK {
			t.Errorf("the sector %d has %.4q.., %d", at, got, err)
		}
	}
}

func TestWriteWrong(t *testing.T) { // 9.1: cluster.Write's errors
	g := api.Geom{K: 2, M: 1, Clusters: 10}
	good := strings.Repeat("a", 512)
	for _, x := range []struct {
		g       api.Geom
		l       []api.Page
		want    api.Errno
		waiting []int
	}{
		{g, nil, api.OK, nil},
		{api.Geom{}, nil, api.OK, nil}, // no page is written, none fails
		{api.Geom{}, []api.Page{{Ptr: api.Ptr{A: 2, B: 3}, Data: good}}, api.ErrForm, nil},
		{g, []api.Page{{Ptr: api.Ptr{A: 10, B: 3}, Data: good}}, api.ErrRange, nil},
		{g, []api.Page{{Ptr: api.Ptr{A: 3, B: -1}, Data: good}}, api.ErrRange, []int{3}},
		{g, []api.Page{{Ptr: api.Ptr{A: 2, B: 3}, Data: good}, {Ptr: api.Ptr{A: 5, B: 6}, Data: "short"}, {Ptr: api.Ptr{A: 7, B: 8}, Data: good}}, api.ErrForm, []int{2, 3}},
		{g, []api.Page{{Ptr: api.Ptr{A: 2, B: 10}, Data: good}, {Ptr: api.Ptr{A: 5, B: 6}, Data: ""}}, api.ErrRange, []int{2}},
	} {
		d, err := dev.New(10)
		is(t, "New", err, api.OK)
		is(t, "Write", pages.Write(d, x.g, x.l), x.want)
		if !slices.Equal(d.Waiting(), x.waiting) {
			t.Errorf("the sectors %v wait, not %v", d.Waiting(), x.waiting)
		}
	}
}

func TestBack(t *testing.T) { // 9.2, 9.4: of trees of one to four levels
	for shift := range api.MaxShift + 1 {
		g := api.Geom{Shift: shift, K: 2, M: 1, Clusters: min(api.MaxClusters, api.MaxSectors>>shift)}
		size := geom.Size(g)
		fan := size / 12
		for _, n := range []int{0, 1, 11, size - 1, size, size + 1, 3 * size, fan * size, fan*size + 1, 1765 * size} {
			count, err := pages.Count(g, n)
			if err == api.OK && 2*count <= g.Clusters-2 {
				grown(t, g, noise(uint32(n+shift), n)).loads(t)
			}
		}
	}
}

func TestWaiting(t *testing.T) { // 9.2: what waits is loaded, and behind a crash it is lost
	x := grown(t, wide, noise(3, 30000))
	l, root, err := pages.Build(wide, noise(4, 30000), row(500, 2*len(x.l)))
	is(t, "Build", err, api.OK)
	is(t, "Write", pages.Write(x.d, wide, l), api.OK)
	tree{g: wide, d: x.d, blob: noise(4, 30000), l: l, root: root}.loads(t)
	x.d.Crash()
	x.loads(t)
	tree{g: wide, d: x.d, blob: noise(4, 30000), l: l, root: root}.fails(t, api.ErrDamaged)
}

func TestEachCopy(t *testing.T) { // 9.2, 9.4: whichever copy is bad, the other one is read; of both none
	for _, x := range []struct {
		g api.Geom
		n int
	}{{small, 0}, {small, 300}, {small, 5 * 512}, {small, 43 * 512}, {wide, 20 * 4096}} {
		blob := noise(8, x.n)
		l := grown(t, x.g, blob).l
		for i, p := range l {
			one := grown(t, x.g, blob)
			one.spoil(t, p.Ptr.A)
			one.loads(t)
			one.spoil(t, p.Ptr.B)
			one.fails(t, api.ErrDamaged)
			if i > 5 && i < len(l)-5 {
				continue
			}
			other := grown(t, x.g, blob)
			other.spoil(t, p.Ptr.B)
			other.loads(t)
		}
	}
}

func TestHalf(t *testing.T) { // 9.2, 9.3, 9.4: of each page one copy is bad, A or B by turns
	for _, turn := range []int{0, 1, 2, 3} {
		x := grown(t, small, noise(11, 200*512))
		var want []api.Copy
		for i, p := range x.l {
			at := p.Ptr.A
			if turn == 1 || turn == 2 && i%2 == 0 || turn == 3 && i%3 == 0 {
				at = p.Ptr.B
			}
			x.spoil(t, at)
			want = append(want, api.Copy{At: at, Healed: true})
		}
		before := x.d.Writes()
		x.loads(t)
		if x.d.Writes() != before {
			t.Fatal("Load wrote something")
		}
		x.heals(t, ptrs(x.l), want...)
		if x.d.Writes() != before+len(want) {
			t.Fatalf("Heal wrote %d sectors", x.d.Writes()-before)
		}
		x.heals(t, ptrs(x.l))
		is(t, "Flush", x.d.Flush(), api.OK)
		for _, p := range x.l {
			x.read(t, p.Ptr.A, p)
			x.read(t, p.Ptr.B, p)
		}
	}
}

func TestLoadLength(t *testing.T) { // 9.2: other numbers of bytes of the same pages
	x := grown(t, small, noise(12, 5*512))
	for _, n := range []int{4*512 + 1, 4*512 + 77, 5 * 512} {
		got, l, err := pages.Load(x.d, x.g, x.root, n)
		if got != x.blob[:n] || !slices.Equal(l, ptrs(x.l)) || err != api.OK {
			t.Errorf("Load(of %d bytes) = %d bytes, %d pointers, %d", n, len(got), len(l), err)
		}
	}
	got, l, err := pages.Load(x.d, x.g, x.root, 512) // one page alone: the root is the leaf
	if got != x.l[5].Data || !slices.Equal(l, []api.Ptr{x.root}) || err != api.OK {
		t.Errorf("Load(of a page) = %d bytes, %d pointers, %d", len(got), len(l), err)
	}
	if got, l, err := pages.Load(x.d, x.g, x.root, 6*512); got != "" || l != nil || err != api.ErrDamaged {
		t.Errorf("Load(of a page too many) = %d bytes, %d pointers, %d", len(got), len(l), err)
	}
}

func TestLoadWrong(t *testing.T) { // 9.2
	x := grown(t, small, noise(13, 2000))
	fails := func(g api.Geom, root api.Ptr, n int, want api.Errno) {
		t.Helper()
		if got, l, err := pages.Load(x.d, g, root, n); got != "" || l != nil || err != want {
			t.Errorf("Load(%v, %v, %d) = %d bytes, %d pointers, %d, not %d", g, root, n, len(got), len(l), err, want)
		}
	}
	for _, n := range []int{-1, api.MaxBlob + 1, math.MaxInt, math.MinInt} {
		fails(small, x.root, n, api.ErrRange)
	}
	for _, g := range wrong() {
		fails(g, x.root, 2000, api.ErrForm)
		fails(g, x.root, -1, api.ErrForm)
	}
	for _, p := range []api.Ptr{
		{A: x.root.A, B: x.root.B, Sum: x.root.Sum + 1},
		{A: x.root.A ^ 1, B: x.root.B ^ 1, Sum: x.root.Sum},
		{A: -1, B: small.Clusters, Sum: x.root.Sum},
		{A: math.MinInt, B: math.MaxInt, Sum: x.root.Sum},
		{},
	} {
		fails(small, p, 2000, api.ErrDamaged)
	}
	for _, p := range []api.Ptr{{A: -1, B: x.root.B, Sum: x.root.Sum}, {A: x.root.A, B: math.MaxUint32, Sum: x.root.Sum}, {A: x.root.A, B: x.root.A, Sum: x.root.Sum}} {
		got, l, err := pages.Load(x.d, small, p, 2000)
		want := append(ptrs(x.l[:4]), p)
		if got != x.blob || !slices.Equal(l, want) || err != api.OK {
			t.Errorf("Load(of %v) = %d bytes, %v, %d", p, len(got), l, err)
		}
	}
}

func TestLoadSmallDevice(t *testing.T) { // 9.2: a copy that the device has not is bad
	x := grown(t, api.Geom{Shift: 1, K: 2, M: 1, Clusters: 10}, "")
	p := x.l[0]
	short, err := dev.New(7)
	is(t, "New", err, api.OK)
	is(t, "Write", cluster.Write(short, x.g, 2, p.Data), api.OK)
	for _, at := range []int{3, 9} { // 3 is there in part
		x := tree{g: x.g, d: short, root: api.Ptr{A: at, B: 2, Sum: p.Ptr.Sum}}
		x.l = []api.Page{{Ptr: x.root, Data: p.Data}}
		x.loads(t)
		x.heals(t, ptrs(x.l), api.Copy{At: at})
		x.root.B = at
		x.fails(t, api.ErrDamaged)
	}
}

func TestLoadDown(t *testing.T) { // 9.2: ErrDown is the answer at once
	x := grown(t, wide, noise(14, 20000))
	x.d.Fuse(0)
	is(t, "Flush", x.d.Flush(), api.ErrDown)
	x.fails(t, api.ErrDown)
	for _, n := range []int{-1, api.MaxBlob + 1} {
		if got, l, err := pages.Load(x.d, wide, x.root, n); got != "" || l != nil || err != api.ErrRange {
			t.Errorf("Load(of %d bytes) = %d bytes, %d pointers, %d", n, len(got), len(l), err)
		}
	}
	if got, l, err := pages.Load(x.d, wide, api.Ptr{A: -1, B: 3}, 0); got != "" || l != nil || err != api.ErrDown {
		t.Errorf("Load(of a B that is down) = %d bytes, %d pointers, %d", len(got), len(l), err)
	}
}

func TestHeal(t *testing.T) { // 9.2: which copies are told, and in which order
	x := grown(t, wide, noise(15, 6*4096))
	l := ptrs(x.l)
	x.heals(t, l)
	x.heals(t, nil)
	for _, at := range []int{l[0].A, l[1].B, l[3].A, l[3].B, l[6].B} {
		x.spoil(t, at)
	}
	x.heals(t, l,
		api.Copy{At: l[0].A, Healed: true}, api.Copy{At: l[1].B, Healed: true},
		api.Copy{At: l[3].A}, api.Copy{At: l[3].B}, api.Copy{At: l[6].B, Healed: true})
	is(t, "Flush", x.d.Flush(), api.OK)
	for _, i := range []int{0, 1, 2, 4, 5, 6} {
		x.read(t, l[i].A, x.l[i])
		x.read(t, l[i].B, x.l[i])
	}
	x.heals(t, l, api.Copy{At: l[3].A}, api.Copy{At: l[3].B})
	x.heals(t, []api.Ptr{l[3], l[2], l[3]}, api.Copy{At: l[3].A}, api.Copy{At: l[3].B}, api.Copy{At: l[3].A}, api.Copy{At: l[3].B})
	x.fails(t, api.ErrDamaged)
}

func TestHealTwice(t *testing.T) { // 9.2: in order: what one pointer healed is good for the next one
	x := grown(t, small, noise(16, 400))
	p := x.l[0].Ptr
	x.spoil(t, p.A)
	x.heals(t, []api.Ptr{p, p, {A: p.B, B: p.A, Sum: p.Sum}}, api.Copy{At: p.A, Healed: true})
	x.spoil(t, p.B)
	x.heals(t, []api.Ptr{{A: p.B, B: p.B, Sum: p.Sum}, {A: p.B, B: p.A, Sum: p.Sum}},
		api.Copy{At: p.B}, api.Copy{At: p.B}, api.Copy{At: p.B, Healed: true}) // of both at one cluster none is good
	x.heals(t, []api.Ptr{{A: p.B, B: p.B, Sum: p.Sum}})
}

func TestHealWrong(t *testing.T) { // 9.2: copies that can't be written anew
	x := grown(t, small, noise(17, 400))
	p := x.l[0].Ptr
	x.heals(t, []api.Ptr{{A: -1, B: p.B, Sum: p.Sum}, {A: p.A, B: small.Clusters, Sum: p.Sum}, {A: -5, B: 1 << 40, Sum: p.Sum}, {A: p.A, B: p.B, Sum: p.Sum + 1}},
		api.Copy{At: -1}, api.Copy{At: small.Clusters}, api.Copy{At: -5}, api.Copy{At: 1 << 40}, api.Copy{At: p.A}, api.Copy{At: p.B})
	if len(x.d.Waiting()) != 0 {
		t.Error("Heal wrote something")
	}
	for _, g := range wrong() { // by such a one nothing can be read
		y := x
		y.g = g
		y.heals(t, []api.Ptr{p}, api.Copy{At: p.A}, api.Copy{At: p.B})
		y.heals(t, nil)
	}
}

func TestHealDown(t *testing.T) { // 9.2: ErrDown is the answer at once
	x := grown(t, small, noise(18, 1000))
	for _, p := range x.l {
		x.spoil(t, p.Ptr.A)
	}
	for fuse := range 4 {
		d := x.d.Clone()
		d.Fuse(fuse)
		got, err := pages.Heal(d, x.g, ptrs(x.l))
		if fuse < 3 && (got != nil || err != api.ErrDown || len(d.Waiting()) != fuse) {
			t.Errorf("behind %d writes Heal = %v, %d, and %d sectors wait", fuse, got, err, len(d.Waiting()))
		}
		if fuse == 3 && (len(got) != 3 || err != api.OK || d.Down()) {
			t.Errorf("behind all writes Heal = %v, %d", got, err)
		}
	}
	d := x.d.Clone()
	d.Fuse(0)
	is(t, "Flush", d.Flush(), api.ErrDown)
	if got, err := pages.Heal(d, x.g, ptrs(x.l)); got != nil || err != api.ErrDown {
		t.Errorf("Heal = %v, %d", got, err)
	}
	if got, err := pages.Heal(d, x.g, []api.Ptr{{A: -1, B: 3}}); got != nil || err != api.ErrDown {
		t.Errorf("Heal of a B that is down = %v, %d", got, err)
	}
	if got, err := pages.Heal(d, x.g, nil); got != nil || err != api.OK {
		t.Errorf("Heal of nothing = %v, %d", got, err)
	}
}

func TestNew(t *testing.T) { // 9.3
	x := grown(t, wide, noise(19, 9000))
	l, _, err := pages.Build(wide, x.blob, row(2, 2*len(x.l)))
	is(t, "Build", err, api.OK)
	_, p, err := pages.Load(x.d, wide, x.root, 9000)
	is(t, "Load", err, api.OK)
	again, _, _ := pages.Build(wide, x.blob, row(2, 2*len(x.l)))
	clear(l)
	clear(p)
	if !slices.Equal(again, byHand(wide, x.blob, row(2, 2*len(x.l)))) {
		t.Error("two answers of Build share something")
	}
	x.loads(t)
	given := ptrs(x.l)
	x.spoil(t, given[0].A)
	x.spoil(t, given[2].B)
	x.heals(t, given, api.Copy{At: given[0].A, Healed: true}, api.Copy{At: given[2].B, Healed: true})
	if !slices.Equal(given, ptrs(x.l)) {
		t.Error("Heal changed what was handed in")
	}
}
