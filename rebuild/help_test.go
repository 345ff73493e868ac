package rebuild_test

import (
	"reflect"
	"slices"
	"strings"
	"testing"

	"caulk/api"
	"caulk/dev"
	"caulk/geom"
	"caulk/image"
	"caulk/load"
	"caulk/rebuild"
)

// small is a geometry whose clusters are sectors.
func small() api.Geom {
	return api.Geom{Shift: 0, K: 2, M: 1, Clusters: 80}
}

// wide is one whose clusters are not.
func wide() api.Geom {
	return api.Geom{Shift: 1, K: 3, M: 2, Clusters: 60}
}

// bare is one without parity.
func bare() api.Geom {
	return api.Geom{Shift: 0, K: 3, M: 0, Clusters: 60}
}

// is ends a test, if what a call answered is another error.
func is(t *testing.T, say string, got, want api.Errno) {
	t.Helper()
	if got != want {
		t.Fatalf("%s = %d, not %d", say, got, want)
	}
}

// some is n bytes without a pattern, none of them 00, always the same ones for one seed.
func some(seed, n int) string {
	var all strings.Builder
	x := uint32(seed)*2654435761 + 12345
	for range n {
		x = x*1664525 + 1013904223
		all.WriteByte(byte(x>>24) | 1)
	}
	return all.String()
}

// draw is a row of numbers that look like chance, and are always the same.
func draw(seed uint64) func(n int) int {
	return func(n int) int {
		seed = seed*6364136223846793005 + 1442695040888963407
		return int(seed>>33) % n
	}
}

// disk is the entry of a member of a stripe.
func disk(stripe, member int) api.Entry {
	return api.Entry{Kind: api.EntryDisk, Place: api.Place{Stripe: stripe, Member: member}}
}

// fresh is the entry of fresh data.
func fresh(n int) api.Entry {
	return api.Entry{Kind: api.EntryFresh, Fresh: n}
}

// build is the map of so many blocks, of tables of e entries, in which full has the entries that are no holes.
func build(e, blocks int, full map[int]api.Entry) api.Chart {
	c := api.Chart{Blocks: blocks}
	for b := range blocks {
		x, there := full[b]
		if !there {
			continue
		}
		n := len(c.Tables)
		if n == 0 || c.Tables[n-1].At != b/e {
			c.Tables = append(c.Tables, api.Table{At: b / e, L: make([]api.Entry, e)})
			n++
		}
		c.Tables[n-1].L[b%e] = x
	}
	return c
}

// lost is ranges of a map: From, To, From, To ..
func lost(chart int, l ...int) []api.Lost {
	var all []api.Lost
	for i := 0; i < len(l); i += 2 {
		all = append(all, api.Lost{Chart: chart, Blocks: api.Range{From: l[i], To: l[i+1]}})
	}
	return all
}

// grown is a device with a container of 100 blocks, the first six of which have data, and a snapshot, 1, in which the blocks 1 and 2 were others; and what it has. Its generation is 3.
func grown(t *testing.T, g api.Geom) (*dev.Dev, api.Opened) {
	t.Helper()
	d, err := dev.New(geom.Sectors(g))
	is(t, "dev.New", err, api.OK)
	m, err := image.New(d, g, 100)
	is(t, "New", err, api.OK)
	size := geom.Size(g)
	is(t, "Write", m.Write(0, some(1, 6*size)), api.OK)
	is(t, "Flush", m.Flush(), api.OK)
	for _, name := range []string{"a", "b"} {
		_, err := m.Snapshot(name)
		is(t, "Snapshot", err, api.OK)
	}
	is(t, "Delete", m.Delete(0), api.OK)
	is(t, "Write", m.Write(int64(size), some(3, 2*size)), api.OK)
	is(t, "Flush", m.Flush(), api.OK)
	return d, opened(t, d)
}

// opened is what the container of d has.
func opened(t *testing.T, d *dev.Dev) api.Opened {
	t.Helper()
	o, err := load.Open(d)
	is(t, "Open", err, api.OK)
	return o
}

// erase makes the last sector of each of these clusters bad.
func erase(t *testing.T, d *dev.Dev, g api.Geom, clusters ...int) {
	t.Helper()
	for _, at := range clusters {
		is(t, "Erase", d.Erase((at+1)<<g.Shift-1), api.OK)
	}
}

// member is the wound, healed or not, of a member of the stripe at the place i.
func member(o api.Opened, i, index int, healed bool) api.Wound {
	x := o.State.Stripes[i]
	return api.Wound{Kind: api.WoundStripe, Id: x.Id, Index: index, At: x.At[index], Healed: healed}
}

// fails ends a test, if a Run does not answer this error, and nothing beside it.
func fails(t *testing.T, say string, d *dev.Dev, want api.Errno) {
	t.Helper()
	report, o, err := rebuild.Run(d)
	if !same(report, api.Report{}) || !same(o, api.Opened{}) || err != want {
		t.Fatalf("%s: Run = %v, %v, %d, not %d", say, report, o, err, want)
	}
}

// runs is what there is behind a Run; it ends a test, if that answers another report, or an error, or anything waits then, or the container opens as another one.
func runs(t *testing.T, say string, d *dev.Dev, want api.Report) api.Opened {
	t.Helper()
	report, o, err := rebuild.Run(d)
	if !same(report, want) || err != api.OK {
		t.Fatalf("%s: Run = %v, %d, not %v", say, report, err, want)
	}
	if len(d.Waiting()) > 0 {
		t.Fatalf("%s: %v wait", say, d.Waiting())
	}
	if now := opened(t, d); !same(o, now) {
		t.Fatalf("%s: there is %v, not %v", say, now, o)
	}
	return o
}

// all is what each block of each map is read as, by the map's Id; of one that is lost: nothing.
func all(t *testing.T, d *dev.Dev) map[int][]string {
	t.Helper()
	m, err := image.Open(d.Clone())
	is(t, "image.Open", err, api.OK)
	size := int64(geom.Size(m.Geom()))
	through := func(c api.Chart, read func(off, n int64) (string, api.Errno)) []string {
		l := make([]string, c.Blocks)
		for b := range l {
			s, err := read(int64(b)*size, size)
			if err != api.OK && (err != api.ErrDamaged || s != "") {
				t.Fatalf("the block %d is read as %q, %d", b, s, err)
			}
			l[b] = s
		}
		return l
	}
	s := m.State()
	l := map[int][]string{-1: through(s.Now, m.Read)}
	for _, x := range s.Snaps {
		l[x.Id] = through(x.Chart, func(off, n int64) (string, api.Errno) { return m.ReadSnap(x.Id, off, n) })
	}
	return l
}

// holed is what is read of all maps, as blocks 00 where these ranges are.
func holed(l map[int][]string, ranges []api.Lost) map[int][]string {
	next := map[int][]string{}
	for id, blocks := range l {
		next[id] = slices.Clone(blocks)
	}
	for _, r := range ranges {
		for b := r.Blocks.From; b < r.Blocks.To; b++ {
			next[r.Chart][b] = strings.Repeat("\x00", len(l[-1][0]))
		}
	}
	return next
}

// plain is x in memory of its own, lists of none as no lists at all, so that two such can be held against each other.
func plain[T any](x T) T {
	v := reflect.New(reflect.TypeOf(x)).Elem()
	v.Set(reflect.ValueOf(x))
	return copied(v).Interface().(T)
}

// copied is v in memory of its own, lists of none as none at all.
func copied(v reflect.Value) reflect.Value {
	to := reflect.New(v.Type()).Elem()
	switch v.Kind() {
	case reflect.Slice:
		for i := range v.Len() {
			to.Set(reflect.Append(to, copied(v.Index(i))))
		}
	case reflect.Struct:
		for i := range v.NumField() {
			to.Field(i).Set(copied(v.Field(i)))
		}
	default:
		to.Set(v)
	}
	return to
}

// same tells whether two things are the same; a list of none may be none at all.
func same[T any](a, b T) bool {
	return reflect.DeepEqual(plain(a), plain(b))
}
