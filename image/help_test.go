package image_test

import (
	"reflect"
	"strings"
	"testing"

	"caulk/api"
	"caulk/chart"
	"caulk/dev"
	"caulk/geom"
	"caulk/image"
	"caulk/load"
	"caulk/pages"
	"caulk/state"
)

// small is a geometry whose clusters are sectors.
func small() api.Geom {
	return api.Geom{Shift: 0, K: 2, M: 1, Clusters: 80}
}

// wide is one whose clusters are not.
func wide() api.Geom {
	return api.Geom{Shift: 1, K: 3, M: 2, Clusters: 60}
}

// is ends a test, if what a call answered is another error.
func is(t *testing.T, say string, got, want api.Errno) {
	t.Helper()
	if got != want {
		t.Fatalf("%s = %d, not %d", say, got, want)
	}
}

// blank is a device of so many sectors.
func blank(t *testing.T, sectors int) *dev.Dev {
	t.Helper()
	d, err := dev.New(sectors)
	is(t, "dev.New", err, api.OK)
	return d
}

// made is a device with an image on it.
func made(t *testing.T, g api.Geom, blocks int) (*dev.Dev, *image.Image) {
	t.Helper()
	d := blank(t, geom.Sectors(g))
	m, err := image.New(d, g, blocks)
	is(t, "New", err, api.OK)
	return d, m
}

// laid is a device on which s is committed by hand, as the generation gen, and an image of that; pieces are its stripes'.
func laid(t *testing.T, g api.Geom, gen int64, s api.State, pieces ...[]string) (*dev.Dev, *image.Image) {
	t.Helper()
	blob, err := state.Bytes(g, s)
	is(t, "Bytes", err, api.OK)
	n, err := pages.Count(g, len(blob))
	is(t, "Count", err, api.OK)
	var at []int
	for i := range 2 * n {
		at = append(at, g.Clusters-1-i)
	}
	l, root, err := pages.Build(g, blob, at)
	is(t, "Build", err, api.OK)
	d := blank(t, geom.Sectors(g))
	_, err = load.Commit(d, g, gen, api.Plan{State: s, Stripes: s.Stripes, Pieces: pieces, Pages: l, Root: root, Length: len(blob)})
	is(t, "Commit", err, api.OK)
	m, err := image.Open(d)
	is(t, "Open", err, api.OK)
	return d, m
}

// some is n bytes, of which no two short parts that lie side by side are alike.
func some(seed, n int) string {
	var all strings.Builder
	x := uint32(seed)*2654435761 + 12345
	for range n {
		x = x*1664525 + 1013904223
		all.WriteByte(byte(x>>24) | 1)
	}
	return all.String()
}

// noughts is n bytes 00.
func noughts(n int) string {
	return strings.Repeat("\x00", n)
}

// write has s stand from off on.
func write(t *testing.T, m *image.Image, off int64, s string) {
	t.Helper()
	is(t, "Write", m.Write(off, s), api.OK)
}

// flush commits.
func flush(t *testing.T, m *image.Image) {
	t.Helper()
	is(t, "Flush", m.Flush(), api.OK)
}

// snapshot is the Id of a snapshot that is made.
func snapshot(t *testing.T, m *image.Image, name string) int {
	t.Helper()
	id, err := m.Snapshot(name)
	is(t, "Snapshot", err, api.OK)
	return id
}

// reads ends a test, if other bytes are read from off on.
func reads(t *testing.T, m *image.Image, off int64, want string) {
	t.Helper()
	got, err := m.Read(off, int64(len(want)))
	if err != api.OK || got != want {
		t.Fatalf("Read(%d, %d) = %.40q.. of %d, %d, not %.40q..", off, len(want), got, len(got), err, want)
	}
}

// readsSnap ends a test, if other bytes are read of a snapshot from off on.
func readsSnap(t *testing.T, m *image.Image, id int, off int64, want string) {
	t.Helper()
	got, err := m.ReadSnap(id, off, int64(len(want)))
	if err != api.OK || got != want {
		t.Fatalf("ReadSnap(%d, %d, %d) = %.40q.. of %d, %d, not %.40q..", id, off, len(want), got, len(got), err, want)
	}
}

// entryOf is the entry of a block of the map of now.
func entryOf(t *testing.T, m *image.Image, b int) api.Entry {
	t.Helper()
	e, err := chart.Get(geom.Entries(m.Geom()), m.State().Now, b)
	is(t, "Get", err, api.OK)
	return e
}

// entries ends a test, if the map of now has other entries from the block first on: 0 of a hole, -1 of the disk, else the number of fresh data.
func entries(t *testing.T, m *image.Image, first int, want ...int) {
	t.Helper()
	for i, w := range want {
		e, got := entryOf(t, m, first+i), 0
		switch e.Kind {
		case api.EntryDisk:
			got = -1
		case api.EntryFresh:
			got = e.Fresh
		}
		if got != w {
			t.Fatalf("the block %d has the entry %v, not %d", first+i, e, w)
		}
	}
}

// place is the member to which the entry of a block of the map of now refers.
func place(t *testing.T, m *image.Image, b int) api.Place {
	t.Helper()
	e := entryOf(t, m, b)
	if e.Kind != api.EntryDisk {
		t.Fatalf("the block %d has the entry %v", b, e)
	}
	return e.Place
}

// cluster is the cluster of a member.
func cluster(t *testing.T, m *image.Image, p api.Place) int {
	t.Helper()
	for _, x := range m.State().Stripes {
		if x.Id == p.Stripe {
			return x.At[p.Member]
		}
	}
	t.Fatalf("there is no stripe %d", p.Stripe)
	return 0
}

// erase makes the last sector of a member bad.
func erase(t *testing.T, d *dev.Dev, m *image.Image, p api.Place) {
	t.Helper()
	is(t, "Erase", d.Erase((cluster(t, m, p)+1)<<m.Geom().Shift-1), api.OK)
}

// spoilt makes the member of a block bad, and as many of its stripe that it does not come back.
func spoilt(t *testing.T, d *dev.Dev, m *image.Image, b int) {
	t.Helper()
	p := place(t, m, b)
	g := m.Geom()
	for i := range g.M + 1 {
		erase(t, d, m, api.Place{Stripe: p.Stripe, Member: (p.Member + i) % (g.K + g.M)})
	}
}

// views is all that the views of an image answer.
type views struct {
	Snaps  []api.Snap
	Size   int64
	Gen    int64
	Geom   api.Geom
	State  api.State
	Pages  []api.Ptr
	Use    []bool
	Dirty  int
	Broken bool
}

// seen is what they answer now.
func seen(m *image.Image) views {
	return views{m.Snaps(), m.Size(), m.Gen(), m.Geom(), m.State(), m.Pages(), m.Use(), m.Dirty(), m.Broken()}
}

// plain is x as lists of none are no lists at all, so that two such can be held against each other.
func plain[T any](x T) T {
	v := reflect.New(reflect.TypeOf(x)).Elem()
	v.Set(reflect.ValueOf(x))
	return copied(v).Interface().(T)
}

// copied is v in memory of its own, lists of none as none at all.
func copied(v reflect.Value) reflect.Value {
	to := reflect.New(v.Type()).Elem()
	switch v.Kind() {
	case reflect.Slice:
		for i := range v.Len() {
			to.Set(reflect.Append(to, copied(v.Index(i))))
		}
	case reflect.Struct:
		for i := range v.NumField() {
			to.Field(i).Set(copied(v.Field(i)))
		}
	default:
		to.Set(v)
	}
	return to
}

// same tells whether two things are the same; a list of none may be none at all.
func same[T any](a, b T) bool {
	return reflect.DeepEqual(plain(a), plain(b))
}

// fails ends a test, if a call does not answer want, or changes what the views answer.
func fails(t *testing.T, say string, m *image.Image, want api.Errno, call func() api.Errno) {
	t.Helper()
	was := seen(m)
	is(t, say, call(), want)
	if now := seen(m); !same(was, now) {
		t.Fatalf("%s: there is %v now, not %v", say, now, was)
	}
}

// breaks ends a test, if a call does not answer ErrDown, and have the image be broken, and all else as it was.
func breaks(t *testing.T, say string, m *image.Image, call func() api.Errno) {
	t.Helper()
	was := seen(m)
	if was.Broken {
		t.Fatalf("%s: it is broken already", say)
	}
	is(t, say, call(), api.ErrDown)
	was.Broken = true
	if now := seen(m); !same(was, now) {
		t.Fatalf("%s: there is %v now, not %v", say, now, was)
	}
	broken(t, say, m)
}

// broken ends a test, if one of the calls of a broken image, be it a wrong one, answers anything but ErrDown.
func broken(t *testing.T, say string, m *image.Image) {
	t.Helper()
	for _, n := range []int64{-1, 0, 1, 512, api.MaxRead + 1} {
		fails(t, say, m, api.ErrDown, func() api.Errno { return answers(t, func() (string, api.Errno) { return m.Read(0, n) }) })
		fails(t, say, m, api.ErrDown, func() api.Errno { return answers(t, func() (string, api.Errno) { return m.ReadSnap(0, n, n) }) })
		fails(t, say, m, api.ErrDown, func() api.Errno { return m.Write(n, "abc") })
		fails(t, say, m, api.ErrDown, func() api.Errno { return m.Zero(0, n) })
		fails(t, say, m, api.ErrDown, func() api.Errno { return m.Discard(0, n) })
		fails(t, say, m, api.ErrDown, func() api.Errno { return m.Resize(int(n)) })
		fails(t, say, m, api.ErrDown, func() api.Errno { return m.Delete(int(n)) })
		fails(t, say, m, api.ErrDown, func() api.Errno { return m.Revert(int(n)) })
	}
	for _, name := range []string{"", "a", strings.Repeat("a", api.MaxName+1)} {
		fails(t, say, m, api.ErrDown, func() api.Errno { return answers(t, func() (int, api.Errno) { return m.Snapshot(name) }) })
	}
	for _, l := range [][]api.Place{nil, {{}}, {{Stripe: -1, Member: -1}}} {
		fails(t, say, m, api.ErrDown, func() api.Errno { return answers(t, func() (int, api.Errno) { return m.Replace(l) }) })
	}
	fails(t, say, m, api.ErrDown, m.Flush)
	if !m.Broken() {
		t.Fatalf("%s: it is not broken", say)
	}
}

// answers is the error of a call, beside which all else must be zero.
func answers[T comparable](t *testing.T, call func() (T, api.Errno)) api.Errno {
	t.Helper()
	var zero T
	x, err := call()
	if err != api.OK && x != zero {
		t.Fatalf("beside the error %d the answer is %v", err, x)
	}
	return err
}
