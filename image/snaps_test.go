package image_test

import (
	"math"
	"slices"
	"strconv"
	"strings"
	"testing"

	"caulk/api"
)

func TestResize(t *testing.T) { // 21.4
	_, m := made(t, small(), 100)
	s := some(1, 100*512)
	write(t, m, 0, s[:30*512])
	flush(t, m)
	write(t, m, 30*512, s[30*512:])
	is(t, "Resize", m.Resize(200), api.OK)
	reads(t, m, 0, s+noughts(100*512))
	is(t, "Resize", m.Resize(60), api.OK)
	if m.Dirty() != 30 || m.Size() != 60*512 {
		t.Errorf("Dirty = %d, Size = %d", m.Dirty(), m.Size())
	}
	reads(t, m, 0, s[:60*512])
	is(t, "Resize", m.Resize(100), api.OK)
	reads(t, m, 0, s[:60*512]+noughts(40*512))
	is(t, "Resize", m.Resize(0), api.OK)
	if m.Dirty() != 0 || m.Size() != 0 {
		t.Errorf("Dirty = %d, Size = %d", m.Dirty(), m.Size())
	}
	is(t, "Resize", m.Resize(api.MaxBlocks), api.OK)
	reads(t, m, 0, noughts(100*512))
	reads(t, m, (api.MaxBlocks-1)*512, noughts(512))
	write(t, m, (api.MaxBlocks-1)*512, "x")
	for _, n := range []int{-1, math.MinInt, api.MaxBlocks + 1, math.MaxInt} {
		fails(t, "Resize", m, api.ErrRange, func() api.Errno { return m.Resize(n) })
	}
	entries(t, m, api.MaxBlocks-1, 101)
	write(t, m, 0, "x")
	entries(t, m, 0, 102)
}

func TestSnapshot(t *testing.T) { // 21.4
	_, m := made(t, small(), 100)
	write(t, m, 5, "first")
	for i, name := range []string{"a", strings.Repeat("n", api.MaxName), "\x00\xff", " "} {
		was := m.State()
		id, err := m.Snapshot(name)
		if id != i || err != api.OK {
			t.Fatalf("Snapshot = %d, %d", id, err)
		}
		want := plain(was)
		want.Snaps = append(want.Snaps, api.Snap{Id: i, Name: name, Chart: was.Now})
		want.NextSnap = i + 1
		if got := m.State(); !same(got, want) {
			t.Fatalf("the state is %v, not %v", got, want)
		}
		write(t, m, int64(i)*512, "more")
	}
	for _, x := range []struct {
		name string
		want api.Errno
	}{{"", api.ErrForm}, {strings.Repeat("n", api.MaxName+1), api.ErrForm}, {"a", api.ErrTwice}, {" ", api.ErrTwice}} {
		fails(t, "Snapshot", m, x.want, func() api.Errno { return answers(t, func() (int, api.Errno) { return m.Snapshot(x.name) }) })
	}
	is(t, "Delete", m.Delete(3), api.OK)
	if id := snapshot(t, m, " "); id != 4 { // an Id is never given again, a name may be
		t.Errorf("Snapshot = %d", id)
	}
}

func TestSnapshotFull(t *testing.T) { // 21.4: MaxSnaps, and the last Id
	_, m := made(t, small(), 10)
	for i := range api.MaxSnaps {
		if id := snapshot(t, m, strconv.Itoa(i)); id != i {
			t.Fatalf("Snapshot = %d", id)
		}
	}
	snap := func(name string) func() api.Errno {
		return func() api.Errno { return answers(t, func() (int, api.Errno) { return m.Snapshot(name) }) }
	}
	fails(t, "one more", m, api.ErrFull, snap("more"))
	fails(t, "one more of a name that there is", m, api.ErrTwice, snap("7"))
	fails(t, "one more of no name", m, api.ErrForm, snap(""))
	is(t, "Delete", m.Delete(7), api.OK)
	if id := snapshot(t, m, "more"); id != api.MaxSnaps {
		t.Errorf("Snapshot = %d", id)
	}
	fails(t, "one more", m, api.ErrFull, snap("7"))

	_, m = laid(t, small(), 1, api.State{NextSnap: api.MaxId - 2})
	if id := snapshot(t, m, "last"); id != api.MaxId-2 {
		t.Errorf("Snapshot = %d", id)
	}
	fails(t, "behind the last one", m, api.ErrFull, snap("more"))
	fails(t, "of its name", m, api.ErrTwice, snap("last"))
	is(t, "Delete", m.Delete(api.MaxId-2), api.OK)
	fails(t, "behind the last one, which is gone", m, api.ErrFull, snap("last"))
	flush(t, m)
	if n := m.State().NextSnap; n != api.MaxId-1 {
		t.Errorf("NextSnap = %d", n)
	}
}

func TestDelete(t *testing.T) { // 21.4
	_, m := made(t, small(), 10)
	for i, name := range []string{"a", "b", "c", "d"} {
		write(t, m, int64(i)*512, some(i, 512))
		snapshot(t, m, name)
		write(t, m, int64(i)*512, "over")
	}
	was := m.State()
	for _, id := range []int{-1, 4, math.MinInt, math.MaxInt} {
		fails(t, "Delete", m, api.ErrNone, func() api.Errno { return m.Delete(id) })
		fails(t, "Revert", m, api.ErrNone, func() api.Errno { return m.Revert(id) })
	}
	want := plain(was)
	for i, id := range []int{1, 3, 0, 2} {
		is(t, "Delete", m.Delete(id), api.OK)
		want.Snaps = slices.DeleteFunc(want.Snaps, func(x api.Snap) bool { return x.Id == id })
		if got := m.State(); !same(got, want) {
			t.Fatalf("the state is %v, not %v", got, want)
		}
		if n := m.Dirty(); n != 7-i { // what it alone had is gone
			t.Errorf("Dirty = %d", n)
		}
		fails(t, "Delete", m, api.ErrNone, func() api.Errno { return m.Delete(id) })
		fails(t, "Revert", m, api.ErrNone, func() api.Errno { return m.Revert(id) })
	}
}

func TestRevert(t *testing.T) { // 21.4
	_, m := made(t, small(), 30)
	s := some(1, 30*512)
	write(t, m, 0, s)
	one := snapshot(t, m, "one")
	flush(t, m)
	is(t, "Resize", m.Resize(10), api.OK)
	write(t, m, 0, "two")
	two := snapshot(t, m, "two")
	write(t, m, 512, "three")
	for range 2 {
		snaps := m.State().Snaps
		is(t, "Revert", m.Revert(one), api.OK)
		if m.Size() != 30*512 || m.Dirty() != 1 || !same(m.State().Snaps, snaps) || !same(m.State().Now, snaps[0].Chart) {
			t.Fatalf("Size = %d, Dirty = %d", m.Size(), m.Dirty())
		}
		reads(t, m, 0, s)
		write(t, m, 29*512, "four")
		readsSnap(t, m, one, 0, s)
		is(t, "Revert", m.Revert(two), api.OK)
		if m.Size() != 10*512 || m.Dirty() != 1 {
			t.Fatalf("Size = %d, Dirty = %d", m.Size(), m.Dirty())
		}
		reads(t, m, 0, "two"+s[3:10*512])
	}
	is(t, "Delete", m.Delete(two), api.OK)
	reads(t, m, 0, "two"+s[3:10*512])
	entries(t, m, 0, 31, -1)
	is(t, "Revert", m.Revert(one), api.OK)
	if m.Dirty() != 0 {
		t.Errorf("Dirty = %d", m.Dirty())
	}
}
