package compact_test

import (
	"reflect"
	"strings"
	"testing"

	"caulk/api"
	"caulk/compact"
	"caulk/dev"
	"caulk/geom"
	"caulk/image"
)

// small is a geometry whose clusters are sectors.
func small() api.Geom {
	return api.Geom{Shift: 0, K: 2, M: 1, Clusters: 80}
}

// wide is one whose clusters are not.
func wide() api.Geom {
	return api.Geom{Shift: 1, K: 3, M: 2, Clusters: 120}
}

// is ends a test, if what a call answered is another error.
func is(t *testing.T, say string, got, want api.Errno) {
	t.Helper()
	if got != want {
		t.Fatalf("%s = %d, not %d", say, got, want)
	}
}

// some is n bytes without a pattern, none of them 00, always the same ones for one seed.
func some(seed, n int) string {
	var all strings.Builder
	x := uint32(seed)*2654435761 + 12345
	for range n {
		x = x*1664525 + 1013904223
		all.WriteByte(byte(x>>24) | 1)
	}
	return all.String()
}

// draw is a row of numbers that look like chance, and are always the same.
func draw(seed uint64) func(n int) int {
	return func(n int) int {
		seed = seed*6364136223846793005 + 1442695040888963407
		return int(seed>>33) % n
	}
}

// disk is the entry of a member of a stripe.
func disk(stripe, member int) api.Entry {
	return api.Entry{Kind: api.EntryDisk, Place: api.Place{Stripe: stripe, Member: member}}
}

// fresh is the entry of fresh data.
func fresh(n int) api.Entry {
	return api.Entry{Kind: api.EntryFresh, Fresh: n}
}

// build is the map of so many blocks, of tables of e entries, in which full has the entries that are no holes.
func build(e, blocks int, full map[int]api.Entry) api.Chart {
	c := api.Chart{Blocks: blocks}
	for b := range blocks {
		x, there := full[b]
		if !there {
			continue
		}
		n := len(c.Tables)
		if n == 0 || c.Tables[n-1].At != b/e {
			c.Tables = append(c.Tables, api.Table{At: b / e, L: make([]api.Entry, e)})
			n++
		}
		c.Tables[n-1].L[b%e] = x
	}
	return c
}

// made is a device with an image on it.
func made(t *testing.T, g api.Geom, blocks int) (*dev.Dev, *image.Image) {
	t.Helper()
	d, err := dev.New(geom.Sectors(g))
	is(t, "dev.New", err, api.OK)
	m, err := image.New(d, g, blocks)
	is(t, "New", err, api.OK)
	return d, m
}

// open is an image of what d has.
func open(t *testing.T, d *dev.Dev) *image.Image {
	t.Helper()
	m, err := image.Open(d)
	is(t, "Open", err, api.OK)
	return m
}

// put writes blocks of an image, from the block b on, and commits them, so that they have stripes of their own.
func put(t *testing.T, m *image.Image, b int, s string) {
	t.Helper()
	write(t, m, b, s)
	is(t, "Flush", m.Flush(), api.OK)
}

// write writes blocks of an image, from the block b on.
func write(t *testing.T, m *image.Image, b int, s string) {
	t.Helper()
	is(t, "Write", m.Write(int64(b*geom.Size(m.Geom())), s), api.OK)
}

// discard has n blocks from the block b on be holes.
func discard(t *testing.T, m *image.Image, b, n int) {
	t.Helper()
	size := int64(geom.Size(m.Geom()))
	is(t, "Discard", m.Discard(int64(b)*size, int64(n)*size), api.OK)
}

// runs ends a test, if a Run does not answer this, or changes what is read.
func runs(t *testing.T, say string, m *image.Image, want int) {
	t.Helper()
	was := all(t, m)
	if n, err := compact.Run(m); n != want || err != api.OK {
		t.Fatalf("%s: Run = %d, %d, not %d", say, n, err, want)
	}
	if !reflect.DeepEqual(all(t, m), was) {
		t.Fatalf("%s: other bytes are read", say)
	}
}

// fails ends a test, if a Run does not answer this error, and nothing beside it, or changes what is read.
func fails(t *testing.T, say string, m *image.Image, want api.Errno) {
	t.Helper()
	was := all(t, m)
	if n, err := compact.Run(m); n != 0 || err != want {
		t.Fatalf("%s: Run = %d, %d, not %d", say, n, err, want)
	}
	if !m.Broken() && !reflect.DeepEqual(all(t, m), was) {
		t.Fatalf("%s: other bytes are read", say)
	}
}

// all is what is read of all maps, by their Ids, block by block; of one that can't be read: nothing.
func all(t *testing.T, m *image.Image) map[int][]string {
	t.Helper()
	size := int64(geom.Size(m.Geom()))
	through := func(c api.Chart, read func(off, n int64) (string, api.Errno)) []string {
		l := make([]string, c.Blocks)
		for b := range l {
			l[b], _ = read(int64(b)*size, size)
		}
		return l
	}
	s := m.State()
	l := map[int][]string{-1: through(s.Now, m.Read)}
	for _, x := range s.Snaps {
		l[x.Id] = through(x.Chart, func(off, n int64) (string, api.Errno) { return m.ReadSnap(x.Id, off, n) })
	}
	return l
}

// views is all that the views of an image answer.
type views struct {
	Snaps  []api.Snap
	Size   int64
	Gen    int64
	State  api.State
	Pages  []api.Ptr
	Use    []bool
	Dirty  int
	Broken bool
}

// seen is what they answer now.
func seen(m *image.Image) views {
	return plain(views{m.Snaps(), m.Size(), m.Gen(), m.State(), m.Pages(), m.Use(), m.Dirty(), m.Broken()})
}

// plain is x in memory of its own, lists of none as no lists at all, so that two such can be held against each other.
func plain[T any](x T) T {
	v := reflect.New(reflect.TypeOf(x)).Elem()
	v.Set(reflect.ValueOf(x))
	return copied(v).Interface().(T)
}

// copied is v in memory of its own, lists of none as none at all.
func copied(v reflect.Value) reflect.Value {
	to := reflect.New(v.Type()).Elem()
	switch v.Kind() {
	case reflect.Slice:
		for i := range v.Len() {
			to.Set(reflect.Append(to, copied(v.Index(i))))
		}
	case reflect.Struct:
		for i := range v.NumField() {
			to.Field(i).Set(copied(v.Field(i)))
		}
	default:
		to.Set(v)
	}
	return to
}

// same tells whether two things are the same; a list of none may be none at all.
func same[T any](a, b T) bool {
	return reflect.DeepEqual(plain(a), plain(b))
}
