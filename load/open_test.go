package load_test

import (
	"math"
	"slices"
	"strings"
	"testing"

	"caulk/api"
	"caulk/crc"
	"caulk/dev"
	"caulk/load"
	"caulk/pages"
	"caulk/state"
	"caulk/super"
)

// grown is a container of three generations, with a snapshot, and what it has.
func grown(t *testing.T) (*dev.Dev, api.Opened) {
	t.Helper()
	d, o := formatted(t, small(), 100)
	o, err := load.Commit(d, small(), 2, changed(t, o, three()))
	is(t, "Commit", err, api.OK)
	keep := func(s *api.State) {
		s.Snaps, s.NextSnap = []api.Snap{{Id: 0, Name: "first", Chart: plain(o.State.Now)}}, 1
	}
	o, err = load.Commit(d, small(), 3, changed(t, o, map[int]string{7: "seven", 50: "fifty"}, keep))
	is(t, "Commit", err, api.OK)
	return d, o
}

// opens ends a test, if another container is opened.
func opens(t *testing.T, say string, d *dev.Dev, want api.Opened) {
	t.Helper()
	was, writes := d.Bytes(), d.Writes()
	if got, err := load.Open(d); !same(got, want) || err != api.OK {
		t.Errorf("%s: Open = %v, %d, not %v", say, got, err, want)
	}
	if d.Bytes() != was || d.Writes() != writes {
		t.Errorf("%s: Open wrote", say)
	}
}

// shut ends a test, if something is opened, or another error is answered.
func shut(t *testing.T, say string, d *dev.Dev, want api.Errno) {
	t.Helper()
	if got, err := load.Open(d); !nothing(got) || err != want {
		t.Errorf("%s: Open = %v, %d, not %d", say, got, err, want)
	}
}

func TestOpen(t *testing.T) { // 20.2
	d, o := grown(t)
	opens(t, "as it is", d, o)
	d.Erase(0)
	opens(t, "with one slot", d, o)
	d.Garble(1, 9, 1)
	shut(t, "with none", d, api.ErrNone)
	is(t, "Write", super.Write(d, 1, o.Super), api.OK)
	opens(t, "with one that waits", d, o)
	d.Crash()
	shut(t, "with one that was lost", d, api.ErrNone)
	shut(t, "nothing", blank(t, 100), api.ErrNone)
	shut(t, "one sector", blank(t, 1), api.ErrNone)
	d, o = grown(t)
	d.Fuse(0)
	opens(t, "on a fuse", d, o)
	is(t, "Flush", d.Flush(), api.ErrDown)
	shut(t, "down", d, api.ErrDown)
	none := blank(t, 9)
	none.Fuse(0)
	none.Flush()
	shut(t, "down, with nothing", none, api.ErrDown) // ahead of ErrNone
}

func TestOpenFirst(t *testing.T) { // 20.2: the first superblock that is found, and that alone
	d, o := formatted(t, small(), 100)
	next, err := load.Commit(d, small(), 2, changed(t, o, three()))
	is(t, "Commit", err, api.OK)
	is(t, "Write", super.Write(d, 0, o.Super), api.OK) // its pages are there yet
	opens(t, "the greater one in the slot 1", d, next)
	is(t, "Write", super.Write(d, 1, o.Super), api.OK)
	opens(t, "the lesser one alone", d, o)
	is(t, "Write", super.Write(d, 0, next.Super), api.OK)
	opens(t, "the greater one in the slot 0", d, next)
	is(t, "Flush", d.Flush(), api.OK)
	d.Erase(next.Super.Root.A)
	opens(t, "a copy of the root is bad", d, next)
	d.Erase(next.Super.Root.B)
	shut(t, "both are", d, api.ErrDamaged) // the other superblock is not asked
	if got, err := load.Read(d, o.Super); !same(got, o) || err != api.OK {
		t.Errorf("Read = %v, %d", got, err)
	}
	other := o.Super
	other.Gen = 2
	is(t, "Write", super.Write(d, 0, other), api.OK) // as great as what the slot 1 has then
	is(t, "Write", super.Write(d, 1, next.Super), api.OK)
	o.Super.Gen = 2
	opens(t, "of one generation", d, o)
}

func TestOpenRoom(t *testing.T) { // 20.2: what the device has no room for is passed over
	d, o := grown(t)
	small, err := dev.Load(d.Bytes()[:59*512])
	is(t, "Load", err, api.OK)
	shut(t, "too small", small, api.ErrNone)
	if got, err := load.Read(small, o.Super); !same(got, o) || err != api.OK { // it has all that is read, all the same
		t.Errorf("Read = %v, %d", got, err)
	}
	great, err := dev.Load(d.Bytes() + strings.Repeat("\x00", 512))
	is(t, "Load", err, api.OK)
	opens(t, "greater", great, o)
}

func TestRead(t *testing.T) { // 20.2
	d, o := grown(t)
	for _, gen := range []int64{1, 3, 77, api.MaxGen} { // no slot is asked
		want := o
		want.Super.Gen = gen
		if got, err := load.Read(d, want.Super); !same(got, want) || err != api.OK {
			t.Errorf("Read = %v, %d, not %v", got, err, want)
		}
	}
	d.Erase(0)
	d.Erase(1)
	if got, err := load.Read(d, o.Super); !same(got, o) || err != api.OK {
		t.Errorf("without slots Read = %v, %d", got, err)
	}
	other := o
	other.Super.Root.A, other.Super.Root.B = o.Super.Root.B, o.Super.Root.A
	other.Pages = slices.Clone(o.Pages)
	other.Pages[len(o.Pages)-1] = other.Super.Root
	if got, err := load.Read(d, other.Super); !same(got, other) || err != api.OK {
		t.Errorf("of the other copy first Read = %v, %d, not %v", got, err, other)
	}
}

func TestReadWrong(t *testing.T) { // 20.2
	d, o := grown(t)
	down := d.Clone()
	down.Fuse(0)
	down.Flush()
	for say, change := range map[string]func(s *api.Super){
		"nothing":               func(s *api.Super) { *s = api.Super{} },
		"no generation":         func(s *api.Super) { s.Gen = 0 },
		"too great a one":       func(s *api.Super) { s.Gen = api.MaxGen + 1 },
		"the least one":         func(s *api.Super) { s.Gen = math.MinInt64 },
		"no geometry":           func(s *api.Super) { s.Geom = api.Geom{} },
		"too wide a geometry":   func(s *api.Super) { s.Geom.Shift = 8 },
		"a shift below 0":       func(s *api.Super) { s.Geom.Shift = -1 },
		"too few clusters":      func(s *api.Super) { s.Geom.Clusters = s.Root.B },
		"a length below 0":      func(s *api.Super) { s.Length = -1 },
		"too great a length":    func(s *api.Super) { s.Length = api.MaxBlob + 1 },
		"a root in a slot":      func(s *api.Super) { s.Root.A = 1 },
		"its copy in a slot":    func(s *api.Super) { s.Root.B = 0 },
		"a root nowhere":        func(s *api.Super) { s.Root.A = 60 },
		"a root below nowhere":  func(s *api.Super) { s.Root.A = math.MinInt },
		"a root above nowhere":  func(s *api.Super) { s.Root.B = math.MaxInt },
		"a geometry of no data": func(s *api.Super) { s.Geom.K = 0 },
	} {
		s := o.Super
		change(&s)
		for _, on := range []*dev.Dev{d, down, blank(t, 1)} { // ahead of all else
			if got, err := load.Read(on, s); !nothing(got) || err != api.ErrForm {
				t.Errorf("%s: Read = %v, %d", say, got, err)
			}
		}
	}
	if got, err := load.Read(down, o.Super); !nothing(got) || err != api.ErrDown {
		t.Errorf("down Read = %v, %d", got, err)
	}
}

func TestReadOther(t *testing.T) { // 20.2: superblocks that are right, but of no container
	d, o := grown(t)
	for say, change := range map[string]func(s *api.Super){
		"another sum":        func(s *api.Super) { s.Root.Sum++ },
		"another place":      func(s *api.Super) { s.Root.A, s.Root.B = 4, 5 },
		"a byte less":        func(s *api.Super) { s.Length-- },
		"a byte more":        func(s *api.Super) { s.Length++ },
		"no bytes":           func(s *api.Super) { s.Length = 0 },
		"a page's less":      func(s *api.Super) { s.Length -= 512 },
		"a page's more":      func(s *api.Super) { s.Length += 512 },
		"a level more":       func(s *api.Super) { s.Length = 50 * 512 },
		"the most":           func(s *api.Super) { s.Length = api.MaxBlob },
		"other stripes":      func(s *api.Super) { s.Geom.M = 2 },
		"fewer data":         func(s *api.Super) { s.Geom.K = 1 },
		"other clusters":     func(s *api.Super) { s.Geom.Shift = 1 },
		"clusters too great": func(s *api.Super) { s.Geom.Shift = 7 },
	} {
		s := o.Super
		change(&s)
		if got, err := load.Read(d, s); !nothing(got) || err != api.ErrDamaged {
			t.Errorf("%s: Read = %v, %d", say, got, err)
		}
	}
	if got, err := load.Read(blank(t, 60), o.Super); !nothing(got) || err != api.ErrDamaged {
		t.Errorf("of a blank device Read = %v, %d", got, err)
	}
	if got, err := load.Read(blank(t, 1), o.Super); !nothing(got) || err != api.ErrDamaged {
		t.Errorf("of a device of a sector Read = %v, %d", got, err)
	}
}

func TestReadDamaged(t *testing.T) { // 20.2: of each page one copy is enough, and none is too few
	whole, o := grown(t)
	if len(o.Pages) < 3 {
		t.Fatalf("there are %d pages", len(o.Pages))
	}
	for _, p := range o.Pages {
		for _, hurt := range []func(d *dev.Dev, at int){
			func(d *dev.Dev, at int) { d.Erase(at) },
			func(d *dev.Dev, at int) { d.Garble(at, 500, 1) },
		} {
			for _, x := range []struct {
				at   []int
				want bool
			}{{[]int{p.A}, true}, {[]int{p.B}, true}, {[]int{p.A, p.B}, false}} {
				d := whole.Clone()
				for _, at := range x.at {
					hurt(d, at)
				}
				got, err := load.Read(d, o.Super)
				if x.want && (!same(got, o) || err != api.OK) || !x.want && (!nothing(got) || err != api.ErrDamaged) {
					t.Errorf("of %v Read = %v, %d", x.at, got, err)
				}
			}
		}
	}
	d := whole.Clone()
	for i, p := range o.Pages { // of each another one
		d.Erase([]int{p.A, p.B}[i%2])
	}
	opens(t, "with one copy of each", d, o)
	for _, x := range o.State.Stripes {
		for _, at := range x.At {
			d.Erase(at)
		}
	}
	opens(t, "with no data", d, o) // data are not read
}

// held writes metadata to these clusters, and answers their superblock.
func held(t *testing.T, d *dev.Dev, blob string, at ...int) api.Super {
	t.Helper()
	l, root, err := pages.Build(small(), blob, at)
	is(t, "Build", err, api.OK)
	for _, p := range l {
		pages.Write(d, small(), []api.Page{p}) // of a copy that is nowhere the other one is written
	}
	return api.Super{Gen: 5, Geom: small(), Length: len(blob), Root: root}
}

// lone is a settled state of one stripe, at 5, 6 and 7, and its bytes: two leaves, and a root.
func lone(t *testing.T) (api.State, string) {
	t.Helper()
	table := make([]api.Entry, 64)
	table[3] = api.Entry{Kind: api.EntryDisk, Place: api.Place{Stripe: 4, Member: 1}}
	s := api.State{
		Now:        api.Chart{Blocks: 100, Tables: []api.Table{{At: 0, L: table}}},
		Stripes:    []api.Stripe{{Id: 4, At: []int{5, 6, 7}, Sums: []uint32{1, 2, 3}}},
		NextStripe: 9,
	}
	blob, err := state.Bytes(small(), s)
	is(t, "Bytes", err, api.OK)
	return s, blob
}

func TestReadUses(t *testing.T) { // 20.2: no cluster may be used twice, or be nowhere
	s, blob := lone(t)
	for _, x := range []struct {
		say  string
		at   []int
		want api.Errno
	}{
		{"as it must be", []int{10, 11, 12, 13, 14, 15}, api.OK},
		{"anywhere", []int{59, 2, 4, 8, 30, 3}, api.OK},
		{"a root at one cluster", []int{10, 11, 12, 13, 14, 14}, api.ErrDamaged},
		{"a leaf at one cluster", []int{10, 10, 12, 13, 14, 15}, api.ErrDamaged},
		{"two leaves at one cluster", []int{10, 11, 12, 11, 14, 15}, api.ErrDamaged},
		{"a leaf at a member", []int{10, 11, 7, 13, 14, 15}, api.ErrDamaged},
		{"a root at parity", []int{10, 11, 12, 13, 14, 7}, api.ErrDamaged},
		{"a leaf at a slot", []int{0, 11, 12, 13, 14, 15}, api.ErrDamaged},
		{"a copy at a slot", []int{10, 11, 12, 1, 14, 15}, api.ErrDamaged},
		{"a copy nowhere", []int{10, 60, 12, 13, 14, 15}, api.ErrDamaged},
		{"a copy far away", []int{10, 11, 12, math.MaxUint32, 14, 15}, api.ErrDamaged},
	} {
		d := blank(t, 60)
		kin := held(t, d, blob, x.at...)
		got, err := load.Read(d, kin)
		if err != x.want || err != api.OK && !nothing(got) {
			t.Errorf("%s: Read = %v, %d, not %d", x.say, got, err, x.want)
		}
		if err == api.OK && !right(got, kin, s, x.at) {
			t.Errorf("%s: Read = %v", x.say, got)
		}
	}
}

// right tells whether o is what a container of s has, whose pages are at these clusters.
func right(o api.Opened, kin api.Super, s api.State, at []int) bool {
	if o.Super != kin || !same(o.State, s) || len(o.Pages) != 3 || o.Pages[2] != kin.Root || len(o.Use) != 60 {
		return false
	}
	for i, p := range o.Pages {
		if p.A != at[2*i] || p.B != at[2*i+1] {
			return false
		}
	}
	for c, used := range o.Use {
		if used != (c < 2 || c >= 5 && c < 8 || slices.Contains(at, c)) {
			return false
		}
	}
	return true
}

func TestReadNoState(t *testing.T) { // 20.2: bytes that are no state's
	_, blob := lone(t)
	four := func(n byte) string { return string([]byte{n, 0, 0, 0}) }
	for say, text := range map[string]string{
		"nothing":                strings.Repeat("\x00", 23),
		"noughts":                strings.Repeat("\x00", 25),
		"other bytes":            strings.Repeat("a", 24),
		"a stripe not referred":  four(1) + four(0) + four(0) + four(1) + four(9) + four(0) + four(0) + four(5) + crc.Bytes("") + four(6) + four(0) + four(7) + four(0),
		"too many blocks":        strings.Repeat("\x00", 16) + "\x01\x00\x01\x00" + four(0),
		"more tables than there": strings.Repeat("\x00", 16) + four(9) + four(1),
	} {
		d := blank(t, 60)
		at := []int{10, 11}
		if got, err := load.Read(d, held(t, d, text, at...)); !nothing(got) || err != api.ErrDamaged {
			t.Errorf("%s: Read = %v, %d", say, got, err)
		}
	}
	for _, i := range []int{3, 7, 11, 19, 24, len(blob) - 28, len(blob) - 24} {
		d := blank(t, 60)
		kin := held(t, d, blob[:i]+"\xff"+blob[i+1:], 10, 11, 12, 13, 14, 15)
		if got, err := load.Read(d, kin); !nothing(got) || err != api.ErrDamaged {
			t.Errorf("with another byte %d Read = %v, %d", i, got, err)
		}
	}
	d := blank(t, 60) // the least one
	kin := held(t, d, strings.Repeat("\x00", 24), 9, 10)
	got, err := load.Read(d, kin)
	if err != api.OK || !same(got.State, api.State{}) || got.Super != kin || !slices.Equal(got.Pages, []api.Ptr{kin.Root}) {
		t.Errorf("Read = %v, %d", got, err)
	}
}

func TestMend(t *testing.T) { // 20.2
	zero, one := api.Copy{At: 0, Healed: true}, api.Copy{At: 1, Healed: true}
	for _, x := range []struct {
		say  string
		hurt func(d *dev.Dev, o api.Opened)
		want []api.Copy
	}{
		{"nothing", func(d *dev.Dev, o api.Opened) {}, nil},
		{"the slot 0 erased", func(d *dev.Dev, o api.Opened) { d.Erase(0) }, []api.Copy{zero}},
		{"the slot 1 garbled", func(d *dev.Dev, o api.Opened) { d.Garble(1, 100, 7) }, []api.Copy{one}},
		{"an older one", func(d *dev.Dev, o api.Opened) { o.Super.Gen = 2; super.Write(d, 1, o.Super) }, []api.Copy{one}},
		{"a newer one", func(d *dev.Dev, o api.Opened) { o.Super.Gen = 4; super.Write(d, 0, o.Super); d.Flush() }, []api.Copy{zero}},
		{"both", func(d *dev.Dev, o api.Opened) { d.Erase(0); d.Erase(1) }, []api.Copy{zero, one}},
		{"a page", func(d *dev.Dev, o api.Opened) { d.Erase(o.Pages[0].A) }, nil}, // it is not mended
	} {
		d, o := grown(t)
		x.hurt(d, o)
		is(t, "Write", d.Write(59, strings.Repeat("w", 512)), api.OK)
		was, writes, bad := plain(o), d.Writes(), slices.DeleteFunc(d.Bad(), func(at int) bool { return at < 2 })
		got, err := load.Mend(d, o)
		if !slices.Equal(got, x.want) || err != api.OK {
			t.Errorf("%s: Mend = %v, %d, not %v", x.say, got, err, x.want)
		}
		if d.Writes() != writes+len(x.want) || len(d.Waiting()) > 0 || !strings.HasSuffix(d.Bytes(), "w") || !slices.Equal(d.Bad(), bad) {
			t.Errorf("%s: %d sectors were written, %v wait, %v are bad", x.say, d.Writes()-writes, d.Waiting(), d.Bad())
		}
		l, err := super.Find(d)
		if !slices.Equal(l, []api.Slot{{Slot: 0, Super: o.Super}, {Slot: 1, Super: o.Super}}) || err != api.OK || !same(o, was) {
			t.Errorf("%s: Find = %v, %d", x.say, l, err)
		}
		clear(got)
		opens(t, x.say, d, o)
		if again, err := load.Mend(d, o); len(again) > 0 || err != api.OK {
			t.Errorf("%s: once more Mend = %v, %d", x.say, again, err)
		}
	}
}

func TestMendWrong(t *testing.T) { // 20.2
	fails := func(say string, d *dev.Dev, o api.Opened, want api.Errno) {
		t.Helper()
		if got, err := load.Mend(d, o); got != nil || err != want {
			t.Errorf("%s: Mend = %v, %d, not %d", say, got, err, want)
		}
	}
	d, o := grown(t)
	wrong := o
	wrong.Super.Gen = 0
	fails("no superblock", d, api.Opened{}, api.ErrForm)
	fails("a wrong one", d, wrong, api.ErrForm)
	fails("a device of a sector", blank(t, 1), o, api.ErrRange)
	other := o
	other.Super.Gen = 9
	for fuse := range 3 { // two writes, and a flush
		cut := d.Clone()
		cut.Fuse(fuse)
		fails("on a fuse", cut, other, api.ErrDown)
		if cut.Bytes() != d.Bytes() || len(cut.Waiting()) != fuse {
			t.Errorf("%v wait", cut.Waiting())
		}
		fails("down, and a wrong one", cut, wrong, api.ErrForm)
		fails("down", cut, o, api.ErrDown)
	}
	cut := d.Clone()
	cut.Fuse(3)
	if got, err := load.Mend(cut, other); len(got) != 2 || err != api.OK {
		t.Errorf("Mend = %v, %d", got, err)
	}
	d.Fuse(0)
	fails("nothing to be written, but a flush", d, o, api.ErrDown)
}
