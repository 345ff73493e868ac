package load_test

import (
	"fmt"
	"reflect"
	"slices"
	"strings"
	"testing"

	"caulk/api"
	"caulk/chart"
	"caulk/dev"
	"caulk/geom"
	"caulk/load"
	"caulk/plan"
	"caulk/pool"
)

// draw is a row of numbers that look like chance, and are always the same.
func draw(seed uint64) func(n int) int {
	return func(n int) int {
		seed = seed*6364136223846793005 + 1442695040888963407
		return int(seed>>33) % n
	}
}

// play is a container, what it has, and what each block of each map is read as.
type play struct {
	d     *dev.Dev
	o     api.Opened
	reads [][]string
}

// masks are ways to keep some of n sectors: none, all, each alone, all but each, and some by chance.
func masks(n int, next func(n int) int) [][]bool {
	all := [][]bool{nil, kept(n, func(int) bool { return true })}
	for one := range n {
		all = append(all, kept(n, func(i int) bool { return i == one }), kept(n, func(i int) bool { return i != one }))
	}
	for range 8 {
		all = append(all, kept(n, func(int) bool { return next(2) == 1 }))
	}
	return all
}

// step is a plan of some changes, and what is read when it is done.
func (x play) step(t *testing.T, next func(n int) int) (api.Plan, [][]string) {
	t.Helper()
	g, e, s, p := x.o.Super.Geom, geom.Entries(x.o.Super.Geom), plain(x.o.State), pool.New()
	reads := plain(x.reads)
	if next(3) == 0 { // a snapshot more, or, if there are two, the first one less
		if len(s.Snaps) < 2 {
			s.Snaps = append(s.Snaps, api.Snap{Id: s.NextSnap, Name: fmt.Sprint("s", s.NextSnap), Chart: plain(s.Now)})
			s.NextSnap++
			reads = append(reads, slices.Clone(reads[0]))
		} else {
			s.Snaps, reads = s.Snaps[1:], slices.Delete(reads, 1, 2)
		}
	}
	for range 1 + next(5) {
		b, to := next(s.Now.Blocks), api.Entry{}
		reads[0][b] = ""
		if next(4) > 0 {
			reads[0][b] = fmt.Sprint("text ", x.o.Super.Gen, next(1000)) + strings.Repeat("+", next(400))
			id, err := p.Add(reads[0][b])
			is(t, "Add", err, api.OK)
			to = api.Entry{Kind: api.EntryFresh, Fresh: id}
		}
		now, err := chart.Set(e, s.Now, b, to)
		is(t, "Set", err, api.OK)
		s.Now = now
	}
	made, err := plan.Make(g, s, p, x.o.Use)
	is(t, "Make", err, api.OK)
	return made, reads
}

// cut commits p on copies of the device that go down behind each number of steps, and crashes them, whatever is kept. It answers such copies of which each was asked for.
func (x play) cut(t *testing.T, gen int64, p api.Plan, reads [][]string, next func(n int) int) (was, is int, copies []*dev.Dev) {
	t.Helper()
	g := x.o.Super.Geom
	want := committed(g, gen, p)
	for fuse := 0; ; fuse++ {
		d := x.d.Clone()
		d.Fuse(fuse)
		_, err := load.Commit(d, g, gen, p)
		for _, mask := range masks(len(d.Waiting()), next) {
			crashed := d.Clone()
			crashed.Crash(mask...)
			got, opened := load.Open(crashed)
			old := same(got, x.o)
			if opened != api.OK || !old && !same(got, want) || old && err == api.OK {
				t.Fatalf("behind %d steps, with %v kept, Open = %v, %d", fuse, mask, got, opened)
			}
			text := reads
			if old {
				text = x.reads
				was++
			} else {
				is++
			}
			if all := read(t, crashed, got); !reflect.DeepEqual(all, text) {
				t.Fatalf("behind %d steps, with %v kept, it reads as %q, not %q", fuse, mask, all, text)
			}
			copies = append(copies, crashed)
		}
		if err == api.OK {
			return was, is, copies
		}
	}
}

func TestCutOff(t *testing.T) { // 20.4: the state ahead of it, or the new one, whatever is kept
	for i, g := range []api.Geom{{Shift: 0, K: 2, M: 1, Clusters: 90}, {Shift: 1, K: 3, M: 2, Clusters: 120}, {Shift: 0, K: 1, M: 0, Clusters: 60}} {
		next := draw(uint64(i))
		d, o := formatted(t, g, 20)
		x := play{d, o, [][]string{make([]string, 20)}}
		for range 8 {
			gen := x.o.Super.Gen + 1
			p, text := x.step(t, next)
			was, is, copies := x.cut(t, gen, p, text, next)
			if was == 0 || is == 0 {
				t.Errorf("%d times it was the state ahead, %d times the new one", was, is)
			}
			x = x.on(t, gen, p, text, copies, next)
		}
	}
}

// on goes on with a commit that is done, or with one of the copies that were cut off, mended or as it is.
func (x play) on(t *testing.T, gen int64, p api.Plan, text [][]string, copies []*dev.Dev, next func(n int) int) play {
	t.Helper()
	if next(2) == 0 {
		o, err := load.Commit(x.d, x.o.Super.Geom, gen, p)
		is(t, "Commit", err, api.OK)
		return play{x.d, o, text}
	}
	d := copies[next(len(copies))]
	o, err := load.Open(d)
	is(t, "Open", err, api.OK)
	if next(2) == 0 {
		_, err := load.Mend(d, o)
		is(t, "Mend", err, api.OK)
	}
	if o.Super.Gen < gen {
		text = x.reads
	}
	return play{d, o, text}
}

func TestCutOffByStep(t *testing.T) { // 20.4: which one it is hangs on the slot 0 alone
	d, o := grown(t)
	p := changed(t, o, three())
	want, l := committed(small(), 4, p), deeds(t, small(), 4, p)
	n := len(l)
	for fuse := range n + 1 {
		for _, all := range []bool{false, true} {
			cut := d.Clone()
			cut.Fuse(fuse)
			load.Commit(cut, small(), 4, p)
			cut.Crash(kept(len(cut.Waiting()), func(int) bool { return all })...)
			if sure := fuse > n-3 || fuse == n-3 && all; sure { // the last steps are: the slot 0, a flush, the slot 1, a flush
				opens(t, "with the slot 0", cut, want)
			} else {
				opens(t, "without the slot 0", cut, o)
			}
		}
	}
}

func TestDone(t *testing.T) { // 20.4: a commit that is done leaves the new one, whatever befalls it then
	d, o := grown(t)
	p := changed(t, o, three())
	got, err := load.Commit(d, small(), 4, p)
	is(t, "Commit", err, api.OK)
	if len(d.Waiting()) > 0 {
		t.Errorf("%v wait", d.Waiting())
	}
	d.Crash()
	opens(t, "behind a crash", d, got)
	for slot := range 2 { // both slots have it
		one := d.Clone()
		one.Erase(slot)
		opens(t, "with one slot", one, got)
	}
}
