package load_test

import (
	"fmt"
	"math"
	"reflect"
	"slices"
	"strings"
	"testing"

	"caulk/api"
	"caulk/chart"
	"caulk/dev"
	"caulk/geom"
	"caulk/load"
	"caulk/plan"
	"caulk/pool"
	"caulk/state"
	"caulk/stripe"
	"caulk/super"
)

// small is a geometry whose clusters are sectors.
func small() api.Geom {
	return api.Geom{Shift: 0, K: 2, M: 1, Clusters: 60}
}

// is ends a test, if what a call answered is another error.
func is(t *testing.T, say string, got, want api.Errno) {
	t.Helper()
	if got != want {
		t.Fatalf("%s = %d, not %d", say, got, want)
	}
}

// blank is a device of so many sectors.
func blank(t *testing.T, sectors int) *dev.Dev {
	t.Helper()
	d, err := dev.New(sectors)
	is(t, "dev.New", err, api.OK)
	return d
}

// formatted is a device with a container that was laid on it, and what that has.
func formatted(t *testing.T, g api.Geom, blocks int) (*dev.Dev, api.Opened) {
	t.Helper()
	d := blank(t, geom.Sectors(g))
	o, err := load.Format(d, g, blocks)
	is(t, "Format", err, api.OK)
	return d, o
}

// plain is x as lists of none are no lists at all, so that two such can be held against each other.
func plain[T any](x T) T {
	v := reflect.New(reflect.TypeOf(x)).Elem()
	v.Set(reflect.ValueOf(x))
	return copied(v).Interface().(T)
}

// copied is v in memory of its own, lists of none as none at all.
func copied(v reflect.Value) reflect.Value {
	to := reflect.New(v.Type()).Elem()
	switch v.Kind() {
	case reflect.Slice:
		for i := range v.Len() {
			to.Set(reflect.Append(to, copied(v.Index(i))))
		}
	case reflect.Struct:
		for i := range v.NumField() {
			to.Field(i).Set(copied(v.Field(i)))
		}
	default:
		to.Set(v)
	}
	return to
}

// same tells whether two things are the same; a list of none may be none at all.
func same[T any](a, b T) bool {
	return reflect.DeepEqual(plain(a), plain(b))
}

// nothing tells whether o is zero all through.
func nothing(o api.Opened) bool {
	return reflect.DeepEqual(o, api.Opened{})
}

// changed is o's state, in which these blocks of the map of now are fresh data, and the plan of that.
func changed(t *testing.T, o api.Opened, data map[int]string, change ...func(*api.State)) api.Plan {
	t.Helper()
	g, p := o.Super.Geom, pool.New()
	s := plain(o.State)
	for b := range s.Now.Blocks {
		text, there := data[b]
		if !there {
			continue
		}
		id, err := p.Add(text)
		is(t, "Add", err, api.OK)
		s.Now, err = chart.Set(geom.Entries(g), s.Now, b, api.Entry{Kind: api.EntryFresh, Fresh: id})
		is(t, "Set", err, api.OK)
	}
	for _, do := range change {
		do(&s)
	}
	next, err := plan.Make(g, s, p, o.Use)
	is(t, "Make", err, api.OK)
	return next
}

// committed is what a commit of p, as the generation gen, comes to.
func committed(g api.Geom, gen int64, p api.Plan) api.Opened {
	o := api.Opened{Super: api.Super{Gen: gen, Geom: g, Length: p.Length, Root: p.Root}, State: p.State, Use: p.Use}
	for _, x := range p.Pages {
		o.Pages = append(o.Pages, x.Ptr)
	}
	return plain(o)
}

// three is data for three blocks, the one of which is as long as a block, and their name.
func three() map[int]string {
	return map[int]string{0: "zero", 7: strings.Repeat("7", 512), 99: "\x00ninety-nine"}
}

// read is of each map of o the bytes of each block, as the stripes have them.
func read(t *testing.T, d *dev.Dev, o api.Opened) [][]string {
	t.Helper()
	g := o.Super.Geom
	var all [][]string
	for _, c := range state.Charts(o.State) {
		blocks, entries, err := chart.All(geom.Entries(g), c)
		is(t, "All", err, api.OK)
		l := make([]string, c.Blocks)
		for i, b := range blocks {
			x, err := state.Stripe(o.State, entries[i].Place.Stripe)
			is(t, "Stripe", err, api.OK)
			l[b], _, err = stripe.Fetch(d, g, x, entries[i].Place.Member)
			is(t, "Fetch", err, api.OK)
			l[b] = strings.TrimRight(l[b], "\x00")
		}
		all = append(all, l)
	}
	return all
}

func TestFormat(t *testing.T) { // 20.1
	for _, g := range []api.Geom{
		small(),
		{Shift: 0, K: 1, M: 0, Clusters: api.MinClusters},
		{Shift: 3, K: 10, M: 5, Clusters: 5}, // too few for a stripe
		{Shift: 0, K: 200, M: 55, Clusters: api.MaxClusters},
		{Shift: 7, K: 3, M: 2, Clusters: 256},
	} {
		for _, blocks := range []int{0, 1, 100, api.MaxBlocks} {
			for more := range 3 {
				d := blank(t, min(api.MaxSectors, geom.Sectors(g)+more))
				o, err := load.Format(d, g, blocks)
				is(t, "Format", err, api.OK)
				if o.Super.Gen != 1 || o.Super.Geom != g || o.Super.Length != 24 || o.Super.Root.A != 2 || o.Super.Root.B != 3 {
					t.Errorf("the superblock is %v", o.Super)
				}
				if !same(o.State, api.State{Now: api.Chart{Blocks: blocks}}) || !slices.Equal(o.Pages, []api.Ptr{o.Super.Root}) {
					t.Errorf("the state is %v, the pages are %v", o.State, o.Pages)
				}
				for at, used := range o.Use {
					if used != (at < 4) {
						t.Errorf("of %d the use is %v", at, used)
					}
				}
				got, err := load.Open(d)
				if !same(got, o) || err != api.OK || len(o.Use) != g.Clusters {
					t.Errorf("Open = %v, %d, not %v", got, err, o)
				}
				if n := 2 + 2<<g.Shift; d.Writes() != n || len(d.Waiting()) > 0 {
					t.Errorf("%d sectors were written, not %d, and %v wait", d.Writes(), n, d.Waiting())
				}
			}
		}
	}
}

func TestFormatByHand(t *testing.T) { // 20.1: all bytes of it
	d, o := formatted(t, small(), 300)
	slot, err := super.Bytes(o.Super)
	is(t, "Bytes", err, api.OK)
	page := strings.Repeat("\x00", 16) + "\x2c\x01\x00\x00" + strings.Repeat("\x00", 492)
	if want := slot + slot + page + page + strings.Repeat("\x00", 56*512); d.Bytes() != want {
		t.Errorf("the device has %x", d.Bytes()[:2048])
	}
}

func TestFormatAnew(t *testing.T) { // 20.1: whatever was there
	d, o := formatted(t, small(), 100)
	for gen := int64(2); gen < 5; gen++ {
		var err api.Errno
		o, err = load.Commit(d, small(), gen, changed(t, o, three()))
		is(t, "Commit", err, api.OK)
	}
	o, err := load.Format(d, small(), 7)
	is(t, "Format", err, api.OK)
	got, err := load.Open(d)
	if !same(got, o) || err != api.OK || got.Super.Gen != 1 || got.State.Now.Blocks != 7 || len(got.State.Stripes) != 0 {
		t.Errorf("Open = %v, %d", got, err)
	}
}

func TestFormatWrong(t *testing.T) { // 20.1
	fails := func(say string, d *dev.Dev, g api.Geom, blocks int, want api.Errno) {
		t.Helper()
		was, writes := d.Bytes(), d.Writes()
		if got, err := load.Format(d, g, blocks); !nothing(got) || err != want {
			t.Errorf("%s: Format = %v, %d, not %d", say, got, err, want)
		}
		if d.Bytes() != was || d.Writes() != writes || len(d.Waiting()) > 0 {
			t.Errorf("%s: something was written", say)
		}
	}
	wrong := []api.Geom{
		{}, {Shift: -1, K: 2, M: 1, Clusters: 60}, {Shift: 8, K: 2, M: 1, Clusters: 60}, {K: 0, M: 1, Clusters: 60}, {K: 2, M: -1, Clusters: 60},
		{K: 200, M: 56, Clusters: 60}, {K: 2, M: 1, Clusters: 3}, {K: 2, M: 1, Clusters: api.MaxClusters + 1}, {Shift: 7, K: 2, M: 1, Clusters: 257},
		{Shift: math.MinInt, K: 2, M: 1, Clusters: 60}, {Shift: math.MaxInt, K: 2, M: 1, Clusters: 60}, {K: 2, M: 1, Clusters: math.MinInt}, {K: 2, M: 1, Clusters: math.MaxInt},
	}
	for _, g := range wrong {
		fails("a geometry that is not right", blank(t, api.MaxSectors), g, 100, api.ErrForm)
		fails("and no such map", blank(t, api.MaxSectors), g, -1, api.ErrForm)
	}
	for _, n := range []int{1, 2, 4, 30, 59} {
		fails("a device that is too small", blank(t, n), small(), 100, api.ErrForm)
		fails("and no such map", blank(t, n), small(), api.MaxBlocks+1, api.ErrForm)
	}
	fails("a device that is too small for wide clusters", blank(t, 60*8-1), api.Geom{Shift: 3, K: 2, M: 1, Clusters: 60}, 100, api.ErrForm)
	for _, n := range []int{-1, math.MinInt, api.MaxBlocks + 1, math.MaxInt} {
		fails("no such map", blank(t, 60), small(), n, api.ErrRange)
	}
	d := blank(t, 60)
	d.Fuse(0)
	fails("no such map, on a fuse", d, small(), -1, api.ErrRange) // ahead of ErrDown
	fails("on a fuse", d, small(), 5, api.ErrDown)
	fails("down, with no such map", d, small(), -1, api.ErrRange)
	fails("down", d, small(), 5, api.ErrDown)
}

// deed is a sector that is written, or a flush (at is below 0).
type deed struct {
	at   int
	text string
}

// deeds is all that a commit does, in order, as the chapter's words say it.
func deeds(t *testing.T, g api.Geom, gen int64, p api.Plan) []deed {
	t.Helper()
	var l []deed
	write := func(cluster int, text string) {
		for i := range 1 << g.Shift {
			l = append(l, deed{at: cluster<<g.Shift + i, text: text[i*512:][:512]})
		}
	}
	for i, x := range p.Stripes {
		for j, at := range x.At {
			write(at, p.Pieces[i][j])
		}
	}
	for _, x := range p.Pages {
		write(x.Ptr.A, x.Data)
		write(x.Ptr.B, x.Data)
	}
	slot, err := super.Bytes(api.Super{Gen: gen, Geom: g, Length: p.Length, Root: p.Root})
	is(t, "Bytes", err, api.OK)
	flush := deed{at: -1}
	return append(l, flush, deed{at: 0, text: slot}, flush, deed{at: 1, text: slot}, flush)
}

// done does them.
func done(t *testing.T, d *dev.Dev, l []deed) {
	t.Helper()
	for _, x := range l {
		if x.at < 0 {
			is(t, "Flush", d.Flush(), api.OK)
		} else {
			is(t, "Write", d.Write(x.at, x.text), api.OK)
		}
	}
}

// alike ends a test, if two devices have not the same bytes, sure ones and waiting ones.
func alike(t *testing.T, say string, a, b *dev.Dev) {
	t.Helper()
	if a.Bytes() != b.Bytes() || !slices.Equal(a.Waiting(), b.Waiting()) || a.Writes() != b.Writes() {
		t.Fatalf("%s: the devices are not alike: %v wait, not %v", say, a.Waiting(), b.Waiting())
	}
	a, b = a.Clone(), b.Clone()
	a.Crash(kept(len(a.Waiting()), func(int) bool { return true })...)
	b.Crash(kept(len(b.Waiting()), func(int) bool { return true })...)
	if a.Bytes() != b.Bytes() {
		t.Fatalf("%s: other bytes wait", say)
	}
}

// kept is n bools, as is tells them.
func kept(n int, is func(i int) bool) []bool {
	l := make([]bool, n)
	for i := range l {
		l[i] = is(i)
	}
	return l
}

func TestCommit(t *testing.T) { // 20.1: each step, in order, cut off behind each, too
	for _, g := range []api.Geom{small(), {Shift: 1, K: 3, M: 2, Clusters: 50}, {Shift: 2, K: 1, M: 0, Clusters: 40}} {
		d, o := formatted(t, g, 100)
		for gen := int64(2); gen < 5; gen++ {
			p := changed(t, o, three())
			was, want, l := plain(p), committed(g, gen, p), deeds(t, g, gen, p)
			for n := range len(l) {
				cut, twin := d.Clone(), d.Clone()
				cut.Fuse(n)
				if got, err := load.Commit(cut, g, gen, p); !nothing(got) || err != api.ErrDown {
					t.Fatalf("behind %d steps Commit = %v, %d", n, got, err)
				}
				done(t, twin, l[:n])
				alike(t, fmt.Sprintf("behind %d steps", n), cut, twin)
			}
			twin := d.Clone()
			done(t, twin, l)
			d.Fuse(len(l))
			got, err := load.Commit(d, g, gen, p)
			if !same(got, want) || err != api.OK {
				t.Fatalf("Commit = %v, %d, not %v", got, err, want)
			}
			alike(t, "in all", d, twin)
			if !same(p, was) {
				t.Error("what was handed in is changed")
			}
			if back, err := load.Open(d); !same(back, want) || err != api.OK {
				t.Fatalf("Open = %v, %d, not %v", back, err, want)
			}
			d.Fuse(-1)
			o = got
		}
		now := read(t, d, o)[0]
		for b, text := range three() {
			if now[b] != text {
				t.Errorf("the block %d has %q", b, now[b])
			}
		}
	}
}

// wrongCommit is a change after which a commit has an error, and how many sectors are written ahead of that.
type wrongCommit struct {
	say    string
	change func(g *api.Geom, gen *int64, p *api.Plan)
	want   api.Errno
	writes int
}

// wrongCommits are some of all kinds.
func wrongCommits() []wrongCommit {
	return []wrongCommit{
		{"no generation", func(g *api.Geom, gen *int64, p *api.Plan) { *gen = 0 }, api.ErrForm, 0},
		{"one below 0", func(g *api.Geom, gen *int64, p *api.Plan) { *gen = -1 }, api.ErrForm, 0},
		{"the least one", func(g *api.Geom, gen *int64, p *api.Plan) { *gen = math.MinInt64 }, api.ErrForm, 0},
		{"too great a one", func(g *api.Geom, gen *int64, p *api.Plan) { *gen = api.MaxGen + 1 }, api.ErrForm, 0},
		{"the greatest one", func(g *api.Geom, gen *int64, p *api.Plan) { *gen = math.MaxInt64 }, api.ErrForm, 0},
		{"no geometry", func(g *api.Geom, gen *int64, p *api.Plan) { *g = api.Geom{} }, api.ErrForm, 0},
		{"too wide a geometry", func(g *api.Geom, gen *int64, p *api.Plan) { g.Shift = 8 }, api.ErrForm, 0},
		{"too few clusters", func(g *api.Geom, gen *int64, p *api.Plan) { g.Clusters = p.Root.B }, api.ErrForm, 0},
		{"no plan", func(g *api.Geom, gen *int64, p *api.Plan) { *p = api.Plan{} }, api.ErrForm, 0},
		{"a length below 0", func(g *api.Geom, gen *int64, p *api.Plan) { p.Length = -1 }, api.ErrForm, 0},
		{"too great a length", func(g *api.Geom, gen *int64, p *api.Plan) { p.Length = api.MaxBlob + 1 }, api.ErrForm, 0},
		{"a root in a slot", func(g *api.Geom, gen *int64, p *api.Plan) { p.Root.A = 1 }, api.ErrForm, 0},
		{"a root nowhere", func(g *api.Geom, gen *int64, p *api.Plan) { p.Root.B = 60 }, api.ErrForm, 0},
		{"a stripe that is not right", func(g *api.Geom, gen *int64, p *api.Plan) { p.Stripes[0].Id = -1 }, api.ErrForm, 0},
		{"another one", func(g *api.Geom, gen *int64, p *api.Plan) { p.Stripes[1].At[2] = 60 }, api.ErrForm, 3},
		{"a stripe at a slot", func(g *api.Geom, gen *int64, p *api.Plan) { p.Stripes[1].At[0] = 1 }, api.ErrForm, 3},
		{"other stripes", func(g *api.Geom, gen *int64, p *api.Plan) { g.M = 2 }, api.ErrForm, 0},
		{"no pieces", func(g *api.Geom, gen *int64, p *api.Plan) { p.Pieces = nil }, api.ErrForm, 0},
		{"no pieces of the last one", func(g *api.Geom, gen *int64, p *api.Plan) { p.Pieces = p.Pieces[:1] }, api.ErrForm, 3},
		{"a piece less", func(g *api.Geom, gen *int64, p *api.Plan) { p.Pieces[1] = p.Pieces[1][:2] }, api.ErrForm, 3},
		{"a piece more", func(g *api.Geom, gen *int64, p *api.Plan) { p.Pieces[1] = append(p.Pieces[1], p.Pieces[1][0]) }, api.ErrForm, 3},
		{"a short piece", func(g *api.Geom, gen *int64, p *api.Plan) { p.Pieces[1][2] = p.Pieces[1][2][:511] }, api.ErrForm, 5},
		{"a page nowhere", func(g *api.Geom, gen *int64, p *api.Plan) { p.Pages[0].Ptr.A = 60 }, api.ErrRange, 6},
		{"a copy nowhere", func(g *api.Geom, gen *int64, p *api.Plan) { p.Pages[1].Ptr.B = -1 }, api.ErrRange, 9},
		{"a short page", func(g *api.Geom, gen *int64, p *api.Plan) { p.Pages[2].Data = "" }, api.ErrForm, 10},
		{"a long page", func(g *api.Geom, gen *int64, p *api.Plan) { p.Pages[2].Data += "\x00" }, api.ErrForm, 10},
	}
}

func TestCommitWrong(t *testing.T) { // 20.1: the first error
	for _, x := range wrongCommits() {
		d, o := formatted(t, small(), 100)
		was, writes := d.Bytes(), d.Writes()
		g, gen, p := small(), int64(2), changed(t, o, three())
		x.change(&g, &gen, &p)
		if got, err := load.Commit(d, g, gen, p); !nothing(got) || err != x.want {
			t.Errorf("%s: Commit = %v, %d, not %d", x.say, got, err, x.want)
		}
		if n := d.Writes() - writes; n != x.writes || d.Bytes() != was {
			t.Errorf("%s: %d sectors were written, not %d", x.say, n, x.writes)
		}
		if got, err := load.Open(d); !same(got, o) || err != api.OK {
			t.Errorf("%s: Open = %v, %d", x.say, got, err)
		}
		if d.Fuse(0); x.writes == 0 {
			if _, err := load.Commit(d, g, gen, p); err != x.want { // ahead of ErrDown
				t.Errorf("%s: on a fuse Commit = %d, not %d", x.say, err, x.want)
			}
		} else if _, err := load.Commit(d, g, gen, p); err != api.ErrDown {
			t.Errorf("%s: on a fuse Commit = %d", x.say, err)
		}
	}
}

func TestCommitSmallDevice(t *testing.T) { // 20.1
	_, o := formatted(t, small(), 100)
	p := changed(t, o, three())
	last := 0
	for _, x := range p.Pages {
		last = max(last, x.Ptr.A, x.Ptr.B)
	}
	d := blank(t, last)
	if got, err := load.Commit(d, small(), 2, p); !nothing(got) || err != api.ErrRange || strings.Trim(d.Bytes(), "\x00") != "" {
		t.Errorf("Commit = %v, %d", got, err)
	}
	d = blank(t, last+1) // there is room for all that is written
	if got, err := load.Commit(d, small(), 2, p); !same(got, committed(small(), 2, p)) || err != api.OK {
		t.Errorf("Commit = %v, %d", got, err)
	}
	if got, err := load.Open(d); !nothing(got) || err != api.ErrNone { // but not for the geometry
		t.Errorf("Open = %v, %d", got, err)
	}
}

func TestCommitBare(t *testing.T) { // 20.1: a plan says what is written, and what there is then
	d, o := formatted(t, small(), 100)
	for _, gen := range []int64{1, 2, 1, api.MaxGen, 7} { // of any generation
		p := api.Plan{Root: o.Super.Root, Length: o.Super.Length, Pieces: [][]string{{"more"}, nil}, State: o.State}
		writes := d.Writes()
		got, err := load.Commit(d, small(), gen, p)
		if !same(got, committed(small(), gen, p)) || err != api.OK || d.Writes() != writes+2 {
			t.Errorf("Commit = %v, %d", got, err)
		}
		want := o
		want.Super.Gen = gen
		if got, err := load.Open(d); !same(got, want) || err != api.OK {
			t.Errorf("Open = %v, %d, not %v", got, err, want)
		}
	}
	p := changed(t, o, three())
	p.State.NextStripe, p.Use = -5, []bool{true}
	p.State.Snaps = []api.Snap{{Name: "no such", Id: -1}}
	if got, err := load.Commit(d, small(), 9, p); !same(got, committed(small(), 9, p)) || err != api.OK {
		t.Errorf("Commit = %v, %d", got, err)
	}
}

// extent is the memory of a list.
type extent struct{ from, to uintptr }

// extents is the memory of all lists of v that have any.
func extents(v reflect.Value) []extent {
	var l []extent
	switch v.Kind() {
	case reflect.Slice:
		if v.Cap() > 0 && v.Type().Elem().Size() > 0 {
			l = append(l, extent{v.Pointer(), v.Pointer() + uintptr(v.Cap())*v.Type().Elem().Size()})
		}
		for i := range v.Len() {
			l = append(l, extents(v.Index(i))...)
		}
	case reflect.Struct:
		for i := range v.NumField() {
			l = append(l, extents(v.Field(i))...)
		}
	}
	return l
}

// apart ends a test, if two lists of an answer share memory, or one of them with what was handed in.
func apart(t *testing.T, say string, answer, given any) {
	t.Helper()
	own := extents(reflect.ValueOf(answer))
	others := extents(reflect.ValueOf(given))
	for i, a := range own {
		for _, b := range append(slices.Clone(own[:i]), others...) {
			if a.from < b.to && b.from < a.to {
				t.Fatalf("%s: two lists share memory", say)
			}
		}
	}
	if len(own) == 0 {
		t.Fatalf("%s: there are no lists", say)
	}
}

func TestNew(t *testing.T) { // 20.3
	d, o := formatted(t, small(), 100)
	apart(t, "Format", o, nil)
	p := changed(t, o, three())
	one, err := load.Commit(d, small(), 2, p)
	is(t, "Commit", err, api.OK)
	apart(t, "Commit", one, p)
	keep := func(s *api.State) {
		s.Snaps, s.NextSnap = []api.Snap{{Id: 3, Name: "a", Chart: plain(s.Now)}, {Id: 4, Name: "b", Chart: plain(s.Now)}}, 5
	}
	p = changed(t, one, map[int]string{5: "five"}, keep)
	two, err := load.Commit(d, small(), 3, p)
	is(t, "Commit", err, api.OK)
	apart(t, "Commit", two, p)
	back, err := load.Open(d)
	is(t, "Open", err, api.OK)
	apart(t, "Open", back, two)
	again, err := load.Read(d, back.Super)
	is(t, "Read", err, api.OK)
	apart(t, "Read", again, back)
	clear(back.Use)
	clear(back.Pages)
	clear(back.State.Stripes[0].At)
	clear(back.State.Now.Tables[0].L)
	if last, err := load.Open(d); !same(last, again) || !same(last, two) || err != api.OK {
		t.Errorf("Open = %v, %d", last, err)
	}
	p.State.Snaps[0].Chart.Tables = p.State.Now.Tables // a plan by hand, in which lists share what they have
	p.State.Stripes[1].At = p.State.Stripes[0].At
	three, err := load.Commit(d, small(), 4, p)
	is(t, "Commit", err, api.OK)
	apart(t, "Commit of what shares", three, p)
}
