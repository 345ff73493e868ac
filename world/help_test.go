package world_test

import (
	"fmt"
	"reflect"
	"strings"
	"testing"

	"caulk/api"
	"caulk/dev"
	"caulk/geom"
	"caulk/image"
	"caulk/load"
	"caulk/world"
)

// small is a geometry whose clusters are sectors.
func small() api.Geom {
	return api.Geom{Shift: 0, K: 2, M: 1, Clusters: 200}
}

// wide is one whose clusters are not.
func wide() api.Geom {
	return api.Geom{Shift: 1, K: 3, M: 2, Clusters: 120}
}

// bare is one without parity.
func bare() api.Geom {
	return api.Geom{Shift: 0, K: 3, M: 0, Clusters: 120}
}

// is ends a test, if what a call answered is another error.
func is(t *testing.T, say string, got, want api.Errno) {
	t.Helper()
	if got != want {
		t.Fatalf("%s = %d, not %d", say, got, want)
	}
}

// some is n bytes without a pattern, none of them 00, always the same ones for one seed.
func some(seed, n int) string {
	var all strings.Builder
	x := uint32(seed)*2654435761 + 12345
	for range n {
		x = x*1664525 + 1013904223
		all.WriteByte(byte(x>>24) | 1)
	}
	return all.String()
}

// draw is a row of numbers that look like chance, and are always the same.
func draw(seed uint64) func(n int) int {
	return func(n int) int {
		seed = seed*6364136223846793005 + 1442695040888963407
		return int(seed>>33) % n
	}
}

// made is a new world.
func made(t *testing.T, g api.Geom, blocks int) *world.World {
	t.Helper()
	w, err := world.New(api.Setup{Geom: g, Blocks: blocks})
	is(t, "New", err, api.OK)
	return w
}

// does ends a test, if what comes of a deed is something else.
func does(t *testing.T, w *world.World, d api.Deed, want api.Told) {
	t.Helper()
	if got := w.Do(d); !same(got, want) {
		t.Fatalf("Do(%s) = %s, not %s", brief(d), brief(got), brief(want))
	}
}

// well ends a test, if a deed, of which nothing is told, has an error.
func well(t *testing.T, w *world.World, l ...api.Deed) {
	t.Helper()
	for _, d := range l {
		does(t, w, d, api.Told{})
	}
}

// fails ends a test, if a deed has another error, or something is told beside it.
func fails(t *testing.T, w *world.World, d api.Deed, want api.Errno) {
	t.Helper()
	does(t, w, d, api.Told{Err: want})
}

// read, write, and the others are deeds.
func read(a, b int) api.Deed { return api.Deed{Kind: api.DeedRead, A: int64(a), B: int64(b)} }
func write(a int, text string) api.Deed {
	return api.Deed{Kind: api.DeedWrite, A: int64(a), Text: text}
}
func snap(name string) api.Deed { return api.Deed{Kind: api.DeedSnap, Text: name} }
func old(n, a, b int) api.Deed {
	return api.Deed{Kind: api.DeedOld, N: n, A: int64(a), B: int64(b)}
}
func fuse(n int) api.Deed               { return api.Deed{Kind: api.DeedFuse, N: n} }
func crash(a int64) api.Deed            { return api.Deed{Kind: api.DeedCrash, A: a} }
func erase(n int) api.Deed              { return api.Deed{Kind: api.DeedErase, N: n} }
func only(kind api.DeedKind) api.Deed   { return api.Deed{Kind: kind} }
func garble(n int, a, b int64) api.Deed { return api.Deed{Kind: api.DeedGarble, N: n, A: a, B: b} }

// guests are deeds of a guest, and a compaction: of each kind one that is right for an image with a snapshot 0.
func guests() []api.Deed {
	return []api.Deed{
		read(0, 1), write(3, "abc"), {Kind: api.DeedZero, A: 1, B: 2}, {Kind: api.DeedDiscard, A: 0, B: 512}, {Kind: api.DeedResize, N: 50},
		snap("one more"), old(0, 1, 1), {Kind: api.DeedRevert}, {Kind: api.DeedDelete}, only(api.DeedFlush), only(api.DeedCompact),
	}
}

// grown is a world of 100 blocks, the first six of which have data, and a snapshot, 0, in which the blocks 1 and 2 were others. Its generation is 3.
func grown(t *testing.T, g api.Geom) *world.World {
	t.Helper()
	w, size := made(t, g, 100), geom.Size(g)
	well(t, w, write(0, some(1, 6*size)), only(api.DeedFlush), snap("first"), write(size, some(3, 2*size)), only(api.DeedFlush))
	return w
}

// views is all that an image and its device show.
type views struct {
	Opens   bool
	State   api.State
	Pages   []api.Ptr
	Use     []bool
	Gen     int64
	Dirty   int
	Broken  bool
	Bytes   string
	Waiting []int
	Bad     []int
	Down    bool
	Writes  int
}

// seen is what they show now; of a world without an image what its device shows.
func seen(d *dev.Dev, m *image.Image) views {
	v := views{Opens: m != nil, Bytes: d.Bytes(), Waiting: d.Waiting(), Bad: d.Bad(), Down: d.Down(), Writes: d.Writes()}
	if m != nil {
		v.State, v.Pages, v.Use, v.Gen, v.Dirty, v.Broken = m.State(), m.Pages(), m.Use(), m.Gen(), m.Dirty(), m.Broken()
	}
	return plain(v)
}

// alike ends a test, if a world shows something else than a device and an image do.
func alike(t *testing.T, say string, w *world.World, d *dev.Dev, m *image.Image) {
	t.Helper()
	if w.Opens() != (w.Image() != nil) {
		t.Fatalf("%s: Opens = %v", say, w.Opens())
	}
	if got, want := seen(w.Dev(), w.Image()), seen(d, m); !reflect.DeepEqual(got, want) {
		t.Fatalf("%s: %s, not %s", say, told(got), told(want))
	}
}

// told is views without their bytes.
func told(v views) string {
	v.Bytes = ""
	return brief(v)
}

// brief is x as text, not more of it than can be read.
func brief(x any) string {
	s := fmt.Sprintf("%+v", x)
	return s[:min(len(s), 1000)]
}

// plain is x in memory of its own, lists of none as no lists at all, so that two such can be held against each other.
func plain[T any](x T) T {
	v := reflect.New(reflect.TypeOf(x)).Elem()
	v.Set(reflect.ValueOf(x))
	return copied(v).Interface().(T)
}

// copied is v in memory of its own, lists of none as none at all.
func copied(v reflect.Value) reflect.Value {
	to := reflect.New(v.Type()).Elem()
	switch v.Kind() {
	case reflect.Slice:
		for i := range v.Len() {
			to.Set(reflect.Append(to, copied(v.Index(i))))
		}
	case reflect.Struct:
		for i := range v.NumField() {
			to.Field(i).Set(copied(v.Field(i)))
		}
	default:
		to.Set(v)
	}
	return to
}

// same tells whether two things are the same; a list of none may be none at all.
func same[T any](a, b T) bool {
	return reflect.DeepEqual(plain(a), plain(b))
}

// opened is what the container of d has.
func opened(t *testing.T, d *dev.Dev) api.Opened {
	t.Helper()
	o, err := load.Open(d)
	is(t, "load.Open", err, api.OK)
	return o
}
