package scrub_test

import (
	"reflect"
	"strings"
	"testing"

	"caulk/api"
	"caulk/dev"
	"caulk/geom"
	"caulk/image"
	"caulk/load"
	"caulk/scrub"
)

// small is a geometry whose clusters are sectors.
func small() api.Geom {
	return api.Geom{Shift: 0, K: 2, M: 1, Clusters: 80}
}

// wide is one whose clusters are not.
func wide() api.Geom {
	return api.Geom{Shift: 1, K: 3, M: 2, Clusters: 60}
}

// bare is one without parity.
func bare() api.Geom {
	return api.Geom{Shift: 0, K: 3, M: 0, Clusters: 60}
}

// is ends a test, if what a call answered is another error.
func is(t *testing.T, say string, got, want api.Errno) {
	t.Helper()
	if got != want {
		t.Fatalf("%s = %d, not %d", say, got, want)
	}
}

// down has d be down.
func down(t *testing.T, d *dev.Dev) {
	t.Helper()
	d.Fuse(0)
	is(t, "Flush", d.Flush(), api.ErrDown)
}

// some is n bytes without a pattern, always the same ones for one seed.
func some(seed, n int) string {
	var all strings.Builder
	x := uint32(seed)*2654435761 + 12345
	for range n {
		x = x*1664525 + 1013904223
		all.WriteByte(byte(x >> 24))
	}
	return all.String()
}

// draw is a row of numbers that look like chance, and are always the same.
func draw(seed uint64) func(n int) int {
	return func(n int) int {
		seed = seed*6364136223846793005 + 1442695040888963407
		return int(seed>>33) % n
	}
}

// grown is a device with a container of 100 blocks, the first six of which have data, and a snapshot, 1, in which the blocks 1 and 2 were others; and what it has.
func grown(t *testing.T, g api.Geom) (*dev.Dev, api.Opened) {
	t.Helper()
	d, err := dev.New(geom.Sectors(g))
	is(t, "dev.New", err, api.OK)
	m, err := image.New(d, g, 100)
	is(t, "New", err, api.OK)
	size := geom.Size(g)
	is(t, "Write", m.Write(0, some(1, 6*size)), api.OK)
	is(t, "Flush", m.Flush(), api.OK)
	for _, name := range []string{"a", "b"} {
		_, err := m.Snapshot(name)
		is(t, "Snapshot", err, api.OK)
	}
	is(t, "Delete", m.Delete(0), api.OK)
	is(t, "Write", m.Write(int64(size), some(3, 2*size)), api.OK)
	is(t, "Flush", m.Flush(), api.OK)
	o, err := load.Open(d)
	is(t, "Open", err, api.OK)
	return d, o
}

// sector is a sector of a cluster, the last one, if i is below 0.
func sector(g api.Geom, cluster, i int) int {
	if i < 0 {
		i += 1 << g.Shift
	}
	return cluster<<g.Shift + i
}

// erase makes the last sector of each of these clusters bad.
func erase(t *testing.T, d *dev.Dev, g api.Geom, clusters ...int) {
	t.Helper()
	for _, at := range clusters {
		is(t, "Erase", d.Erase(sector(g, at, -1)), api.OK)
	}
}

// runs ends a test, if a Run answers anything but this, or leaves something that waits, or changes what was opened.
func runs(t *testing.T, say string, d *dev.Dev, o api.Opened, want api.Report) {
	t.Helper()
	given := plain(o)
	got, err := scrub.Run(d, o)
	if !same(got, want) || err != api.OK {
		t.Fatalf("%s: Run = %v, %d, not %v", say, got, err, want)
	}
	if len(d.Waiting()) > 0 {
		t.Fatalf("%s: %v wait", say, d.Waiting())
	}
	if !same(o, given) {
		t.Fatalf("%s: what was handed in is changed", say)
	}
}

// fails ends a test, if a Run does not answer this error, and nothing beside it.
func fails(t *testing.T, say string, d *dev.Dev, o api.Opened, want api.Errno) {
	t.Helper()
	got, err := scrub.Run(d, o)
	if got.Wounds != nil || got.Lost != nil || err != want {
		t.Fatalf("%s: Run = %v, %d, not %d", say, got, err, want)
	}
}

// plain is x as lists of none are no lists at all, so that two such can be held against each other.
func plain[T any](x T) T {
	v := reflect.New(reflect.TypeOf(x)).Elem()
	v.Set(reflect.ValueOf(x))
	return copied(v).Interface().(T)
}

// copied is v in memory of its own, lists of none as none at all.
func copied(v reflect.Value) reflect.Value {
	to := reflect.New(v.Type()).Elem()
	switch v.Kind() {
	case reflect.Slice:
		for i := range v.Len() {
			to.Set(reflect.Append(to, copied(v.Index(i))))
		}
	case reflect.Struct:
		for i := range v.NumField() {
			to.Field(i).Set(copied(v.Field(i)))
		}
	default:
		to.Set(v)
	}
	return to
}

// same tells whether two things are the same; a list of none may be none at all.
func same[T any](a, b T) bool {
	return reflect.DeepEqual(plain(a), plain(b))
}
