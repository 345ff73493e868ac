package plan_test

import (
	"math"
	"slices"
	"strings"
	"testing"

	"caulk/api"
	"caulk/chart"
	"caulk/crc"
	"caulk/dev"
	"caulk/geom"
	"caulk/pages"
	"caulk/plan"
	"caulk/pool"
	"caulk/space"
	"caulk/state"
	"caulk/stripe"
)

// filled is the map of so many blocks of which each is x.
func filled(e, blocks int, x api.Entry) api.Chart {
	full := map[int]api.Entry{}
	for b := range blocks {
		full[b] = x
	}
	return build(e, blocks, full)
}

// many is the map of n fresh data, each of its own number.
func many(e, n int) api.Chart {
	full := map[int]api.Entry{}
	for b := range n {
		full[b] = fresh(b + 1)
	}
	return build(e, n, full)
}

// single is a stripe of n members, from the cluster 2 on.
func single(n int) []api.Stripe {
	x := api.Stripe{Id: 0, Sums: make([]uint32, n)}
	for i := range n {
		x.At = append(x.At, 2+i)
	}
	return []api.Stripe{x}
}

// deadly is a state of a stripe to which all refers, and 23 to which nothing does.
func deadly() api.State {
	s := api.State{Now: filled(64, 100, disk(5, 1)), NextStripe: 24}
	for id := range 24 {
		s.Stripes = append(s.Stripes, api.Stripe{Id: id, At: []int{2 + 3*id, 3 + 3*id, 4 + 3*id}, Sums: []uint32{0, 0, 0}})
	}
	return s
}

func TestNeed(t *testing.T) { // 18.2
	x := sample()
	small := api.Geom{K: 1, M: 0, Clusters: 4}
	for _, y := range []struct {
		say  string
		g    api.Geom
		s    api.State
		want int
	}{
		{"of the sample", x.g, x.s, 3*3 + 2*8},
		{"of nothing", x.g, api.State{}, 2},
		{"of nothing fresh", x.g, settled().s, 2 * 3}, // 24 + 516 + 45 + 2 of 28 bytes are two leaves, and a root
		{"of holes", small, api.State{Now: api.Chart{Blocks: api.MaxBlocks}}, 2},
		{"of more than there are clusters for", small, api.State{Now: many(64, 100)}, 100 + 2*(5+1)}, // 24 + 2 of 516 + 100 of 12 bytes
		{"of a stripe for which there is no room", api.Geom{K: 200, M: 55, Clusters: 4}, api.State{Now: many(64, 1)}, 255 + 2*(6+1)},
		{"at the last Ids", x.g, api.State{Now: many(64, 5), NextStripe: api.MaxId - 1}, 3*3 + 2*3},
		{"of a dead stripe alone", small, api.State{Stripes: single(1), NextStripe: 1}, 2},
		{"of many dead stripes", api.Geom{K: 2, M: 1, Clusters: 80}, deadly(), 2 * (3 + 1)}, // 24 + 2 of 516 + 28 bytes; the dead ones would have 644 more
		{"of the same data, 90 times", small, api.State{Now: filled(64, 90, fresh(5))}, 1 + 2*(3+1)},
		{"of wide clusters", wide().g, wide().s, 5 + 2*(3+1)}, // 24 + 2 of 65540 + 44 bytes
	} {
		was := plain(y.s)
		if got, err := plan.Need(y.g, y.s); got != y.want || err != api.OK {
			t.Errorf("%s: Need = %d, %d, not %d", y.say, got, err, y.want)
		}
		if !same(y.s, was) {
			t.Errorf("%s: what was handed in is changed", y.say)
		}
	}
}

// brimful is a given whose metadata have just MaxBlob bytes, and as many as there are in more: 1018 tables of 1028 bytes, a stripe of 12, and 64 snapshots.
func brimful(more int) given {
	x := given{g: api.Geom{Shift: 1, K: 1, M: 0, Clusters: 3000}, used: []int{0, 1, 2}}
	x.s = api.State{Now: filled(128, 512*128, disk(0, 0)), Stripes: single(1), NextStripe: 1, NextSnap: 64}
	rest := api.MaxBlob - 24 - 1018*1028 - 12 - 64*13 + more
	for id := range api.MaxSnaps {
		n := rest / (64 - id)
		rest -= n
		x.s.Snaps = append(x.s.Snaps, api.Snap{Id: id, Name: string(rune('!'+id)) + strings.Repeat("n", n-1)})
	}
	x.s.Snaps[30].Chart = filled(128, 506*128, disk(0, 0))
	return x
}

func TestLong(t *testing.T) { // 18.1, 18.2: MaxBlob bytes may be, and no more
	x := brimful(0)
	need, err := plan.Need(x.g, x.s)
	if need != 2*(1024+13+1) || err != api.OK {
		t.Errorf("Need = %d, %d", need, err)
	}
	got, err := x.make()
	if got.Length != api.MaxBlob || len(got.Pages) != 1038 || err != api.OK {
		t.Errorf("Make = %s, %d", brief(got), err)
	}
	for more := 1; more < 4; more++ {
		x := brimful(more)
		if need, err := plan.Need(x.g, x.s); need != 0 || err != api.ErrLong {
			t.Errorf("of %d more Need = %d, %d", more, need, err)
		}
		if got, err := x.make(); !blank(got) || err != api.ErrLong {
			t.Errorf("of %d more Make = %s, %d", more, brief(got), err)
		}
	}
	x = brimful(-12) // there is room for another stripe
	x.s.Snaps[3].Chart = x.s.Snaps[30].Chart
	x.s.Snaps[30].Chart = api.Chart{Blocks: 5}
	x.s.Now.Tables[511].L[127] = fresh(1)
	x.data = map[int]string{1: "fresh"}
	if got, err := x.make(); got.Length != api.MaxBlob || err != api.OK {
		t.Errorf("with another stripe Make = %s, %d", brief(got), err)
	}
	x.s.Now.Tables[511].L[126] = fresh(2)
	x.data[2] = "more"
	if got, err := x.make(); !blank(got) || err != api.ErrLong {
		t.Errorf("with two others Make = %s, %d", brief(got), err)
	}
	if need, err := plan.Need(x.g, x.s); need != 0 || err != api.ErrLong {
		t.Errorf("with two others Need = %d, %d", need, err)
	}
	if need, err := plan.Need(api.Geom{K: 1, Clusters: 4}, api.State{Now: many(64, api.MaxBlocks)}); need != 0 || err != api.ErrLong {
		t.Errorf("of a map that is full Need = %d, %d", need, err)
	}
}

func TestUses(t *testing.T) { // 18.2
	x := sample()
	for _, y := range []struct {
		say  string
		l    []api.Ptr
		want []int // none beside an error
		err  api.Errno
	}{
		{"no pages", nil, []int{0, 1, 2, 3, 4, 5, 9, 10, 11, 20, 21}, api.OK},
		{"pages", []api.Ptr{{A: 39, B: 6}, {A: 8, B: 7, Sum: 5}}, []int{0, 1, 2, 3, 4, 5, 6, 7, 8, 9, 10, 11, 20, 21, 39}, api.OK},
		{"a page at 40", []api.Ptr{{A: 6, B: 7}, {A: 40, B: 8}}, nil, api.ErrRange},
		{"its copy at 40", []api.Ptr{{A: 6, B: 7}, {A: 8, B: 40}}, nil, api.ErrRange},
		{"a page below 0", []api.Ptr{{A: -1, B: 7}}, nil, api.ErrRange},
		{"its copy below 0", []api.Ptr{{A: 7, B: -1}, {A: 8, B: 6}}, nil, api.ErrRange},
		{"far away", []api.Ptr{{A: math.MaxInt, B: math.MinInt}}, nil, api.ErrRange},
		{"far above", []api.Ptr{{A: 6, B: 1<<32 + 7}}, nil, api.ErrRange},
		{"a page at 0", []api.Ptr{{A: 6, B: 7}, {A: 0, B: 8}}, nil, api.ErrTwice},
		{"its copy at 1", []api.Ptr{{A: 6, B: 1}}, nil, api.ErrTwice},
		{"both copies at one", []api.Ptr{{A: 6, B: 6}}, nil, api.ErrTwice},
		{"two pages at one", []api.Ptr{{A: 6, B: 7}, {A: 8, B: 6}}, nil, api.ErrTwice},
		{"one page twice", []api.Ptr{{A: 6, B: 7}, {A: 12, B: 13}, {A: 6, B: 7}}, nil, api.ErrTwice},
		{"a stripe's data", []api.Ptr{{A: 6, B: 20}}, nil, api.ErrTwice},
		{"a stripe's parity", []api.Ptr{{A: 4, B: 6}}, nil, api.ErrTwice},
		{"a stripe's that is dead", []api.Ptr{{A: 6, B: 10}}, nil, api.ErrTwice},
		{"one twice, and then one above", []api.Ptr{{A: 6, B: 6}, {A: 0, B: 40}}, nil, api.ErrRange},
		{"one twice, and then one below", []api.Ptr{{A: 6, B: 6}, {A: 0, B: -1}}, nil, api.ErrRange},
		{"one nowhere, and then one twice", []api.Ptr{{A: -1, B: 6}, {A: 6, B: 0}}, nil, api.ErrRange},
	} {
		s, l := plain(x.s), slices.Clone(y.l)
		got, err := plan.Uses(x.g, x.s, y.l)
		if used := space.Used(got); !slices.Equal(used, y.want) || err != y.err || (got == nil) != (err != api.OK) || err == api.OK && len(got) != 40 {
			t.Errorf("%s: Uses = %v, %d, not %v, %d", y.say, used, err, y.want, y.err)
		}
		if !same(x.s, s) || !slices.Equal(y.l, l) {
			t.Errorf("%s: what was handed in is changed", y.say)
		}
	}
	least := api.Geom{K: 1, M: 0, Clusters: 4}
	if got, err := plan.Uses(least, api.State{}, []api.Ptr{{A: 3, B: 2}}); !slices.Equal(got, []bool{true, true, true, true}) || err != api.OK {
		t.Errorf("of four clusters Uses = %v, %d", got, err)
	}
}

// spoil changes all that a plan can reach, but leaves the plan itself.
func spoil(p api.Plan) {
	for _, x := range slices.Concat(p.State.Stripes, p.Stripes) {
		clear(x.At)
		clear(x.Sums)
	}
	for _, c := range append(charts(p.State), p.State.Now) {
		for _, y := range c.Tables {
			clear(y.L)
		}
		clear(c.Tables)
	}
	clear(p.State.Snaps)
	clear(p.State.Stripes)
	clear(p.Stripes)
	for _, l := range p.Pieces {
		clear(l)
	}
	clear(p.Pieces)
	clear(p.Pages)
	clear(p.Use)
}

// charts is the maps of the snapshots, as they stand.
func charts(s api.State) []api.Chart {
	var l []api.Chart
	for _, x := range s.Snaps {
		l = append(l, x.Chart)
	}
	return l
}

// shared is a given whose maps share memory, as those of an answer may not.
func shared() given {
	x := sample()
	x.g.Clusters = 60
	x.s.Snaps[1].Chart, x.s.Snaps[2].Chart = x.s.Now, x.s.Now
	return x
}

func TestNewMemory(t *testing.T) { // 18.3
	x := shared()
	use, p := x.use(), x.pool()
	s, want := plain(x.s), api.Plan{}
	for i := range 2 {
		got, err := plan.Make(x.g, x.s, p, use)
		if err != api.OK {
			t.Fatalf("Make = %d", err)
		}
		if i > 0 && !same(got, want) {
			t.Error("Make shares what it answered")
		}
		want = plain(got)
		spoil(got)
		if !same(x.s, s) || !slices.Equal(use, x.use()) {
			t.Error("Make shares what was handed in")
		}
	}
	l := []api.Ptr{{A: 6, B: 7}}
	uses, _ := plan.Uses(x.g, x.s, l)
	clear(uses)
	if again, err := plan.Uses(x.g, x.s, l); !again[6] || err != api.OK || !same(x.s, s) || l[0] != (api.Ptr{A: 6, B: 7}) {
		t.Error("Uses shares what it answered, or what was handed in")
	}
}

func TestOwnMemory(t *testing.T) { // 18.3: no two lists of one plan share any
	x := shared()
	want, err := x.make()
	if err != api.OK {
		t.Fatalf("Make = %d", err)
	}
	for say, do := range map[string]func(p *api.Plan){
		"the new stripes": func(p *api.Plan) {
			for _, y := range p.Stripes {
				clear(y.At)
				clear(y.Sums)
			}
			clear(p.Stripes)
			p.Stripes = want.Stripes
		},
		"the map of now": func(p *api.Plan) {
			clear(p.State.Now.Tables[0].L)
			p.State.Now.Tables = append(p.State.Now.Tables[:0], api.Table{At: 66})
			p.State.Now = want.State.Now
		},
		"a snapshot's map": func(p *api.Plan) {
			clear(p.State.Snaps[1].Chart.Tables[1].L)
			clear(p.State.Snaps[1].Chart.Tables)
			p.State.Snaps[1].Chart = want.State.Snaps[1].Chart
		},
		"pieces": func(p *api.Plan) {
			for i := range p.Pieces {
				p.Pieces[i] = append(p.Pieces[i], "a") // where there is room behind one list, no other one may be
			}
			p.Pieces = want.Pieces
		},
		"a stripe of the State": func(p *api.Plan) {
			y := p.State.Stripes[0]
			p.State.Stripes[0] = api.Stripe{Id: y.Id, At: append(y.At, 66), Sums: append(y.Sums, 66)}
			p.State.Stripes[0] = want.State.Stripes[0]
		},
	} {
		got, _ := x.make()
		if do(&got); !same(got, want) {
			t.Errorf("behind a change of %s another list is changed, too", say)
		}
	}
}

// seed is where a row of numbers without a pattern is.
type seed uint32

// next is the next one of them, from 0 to below n.
func (r *seed) next(n int) int {
	*r = *r*1664525 + 1013904223
	return int(*r>>16) % n
}

// clusters is so many of the free clusters of a use, none of which is the lowest one for sure, and they are used then.
func (r *seed) clusters(use []bool, n int) []int {
	var free, l []int
	for at, is := range use {
		if !is {
			free = append(free, at)
		}
	}
	for range n {
		i := r.next(len(free))
		l = append(l, free[i])
		use[free[i]] = true
		free = slices.Delete(free, i, i+1)
	}
	return l
}

// chart is a map of some blocks, of entries of s' stripes, and of fresh ones.
func (r *seed) chart(g api.Geom, s api.State) api.Chart {
	full, blocks := map[int]api.Entry{}, r.next(400)
	for range r.next(30) {
		if blocks == 0 {
			break
		}
		x := fresh(1 + r.next(12))
		if n := len(s.Stripes); n > 0 && r.next(2) > 0 {
			x = disk(s.Stripes[r.next(n)].Id, r.next(g.K))
		}
		full[r.next(blocks)] = x
	}
	return build(geom.Entries(g), blocks, full)
}

// given is something of which there may be a plan.
func (r *seed) given() given {
	g := api.Geom{Shift: r.next(3), K: 1 + r.next(4), M: r.next(4), Clusters: 30 + r.next(120)}
	x := given{g: g, data: map[int]string{}}
	use, _ := space.New(g.Clusters)
	for range r.next(3) {
		y := api.Stripe{Id: x.s.NextStripe + r.next(3)}
		y.At = r.clusters(use, g.K+g.M)
		for range y.At {
			y.Sums = append(y.Sums, uint32(r.next(1<<16)))
		}
		x.s.Stripes = append(x.s.Stripes, y)
		x.s.NextStripe = y.Id + 1 + r.next(2)
	}
	for n := 1; n <= 12; n++ {
		x.data[n] = strings.Repeat(string(rune('a'+n)), r.next(geom.Size(g)+1))
	}
	x.s.Now = r.chart(g, x.s)
	for id := range r.next(3) {
		x.s.Snaps = append(x.s.Snaps, api.Snap{Id: id, Name: "snap" + string(rune('0'+id)), Chart: r.chart(g, x.s)})
		x.s.NextSnap = id + 1
	}
	r.clusters(use, r.next(5))
	x.used = space.Used(use)
	return x
}

func TestEnough(t *testing.T) { // 18.4, and 18.1 against what is made by hand
	r := seed(3)
	plans := 0
	for range 400 {
		x := r.given()
		need, err := plan.Need(x.g, x.s)
		if err != api.OK {
			t.Fatalf("Need(%v) = %d", x.g, err)
		}
		free := space.Free(x.use())
		want, err := x.byHand(t)
		if got, err2 := x.make(); !same(got, want) || err2 != err || (err == api.OK) != (free >= need) {
			t.Fatalf("of %d free, and %d needed, Make = %s, %d, not %s, %d", free, need, brief(got), err2, brief(want), err)
		}
		if err != api.OK {
			continue
		}
		plans++
		use := x.use()
		r.clusters(use, free-need)
		x.used = space.Used(use)
		just, err := x.make()
		if err != api.OK {
			t.Fatalf("of just %d free Make = %d", need, err)
		}
		takes(t, x, just)
		reads(t, x, just)
		r.clusters(use, 1)
		x.used = space.Used(use)
		if got, err := x.make(); !blank(got) || err != api.ErrSpace {
			t.Fatalf("of one less than %d free Make = %s, %d", need, brief(got), err)
		}
	}
	if plans < 100 || plans > 399 {
		t.Errorf("of 400 there are %d plans", plans)
	}
}

// takes ends a test, if a plan takes others than all that are free, or the use is not what it says.
func takes(t *testing.T, x given, p api.Plan) {
	t.Helper()
	var taken, want []int
	for _, y := range p.Stripes {
		taken = append(taken, y.At...)
	}
	for _, y := range p.Pages {
		taken = append(taken, y.Ptr.A, y.Ptr.B)
	}
	for at, is := range x.use() {
		if !is {
			want = append(want, at)
		}
	}
	if slices.Sort(taken); !slices.Equal(taken, want) {
		t.Fatalf("the plan takes %v, not %v", taken, want)
	}
	for _, at := range taken {
		if !p.Use[at] {
			t.Fatalf("%d is taken, and not used", at)
		}
	}
}

// reads ends a test, if what a plan writes is not read as what was planned.
func reads(t *testing.T, x given, p api.Plan) {
	t.Helper()
	d, _ := dev.New(geom.Sectors(x.g))
	for i, y := range p.Stripes {
		if err := stripe.Write(d, x.g, y, p.Pieces[i]); err != api.OK {
			t.Fatalf("stripe.Write = %d", err)
		}
	}
	if err := pages.Write(d, x.g, p.Pages); err != api.OK {
		t.Fatalf("pages.Write = %d", err)
	}
	blob, ptrs, err := pages.Load(d, x.g, p.Root, p.Length)
	s, err2 := state.Parse(x.g, blob)
	if err != api.OK || err2 != api.OK || !same(s, p.State) {
		t.Fatalf("Load = %d, Parse = %d", err, err2)
	}
	if use, err := plan.Uses(x.g, s, ptrs); !slices.Equal(use, p.Use) || err != api.OK {
		t.Fatalf("Uses = %v, %d, not %v", use, err, p.Use)
	}
	was, is := state.Charts(x.s), state.Charts(s)
	for i, c := range was {
		blocks, entries, _ := chart.All(geom.Entries(x.g), c)
		for j, b := range blocks {
			y, _ := chart.Get(geom.Entries(x.g), is[i], b)
			if entries[j].Kind == api.EntryDisk && y != entries[j] {
				t.Fatalf("the block %d was %v, and is %v", b, entries[j], y)
			}
			if entries[j].Kind == api.EntryFresh {
				member(t, x, d, s, y, x.data[entries[j].Fresh])
			}
		}
	}
}

// member ends a test, if the member of an entry is not read as s.
func member(t *testing.T, x given, d *dev.Dev, s api.State, e api.Entry, want string) {
	t.Helper()
	y, err := state.Stripe(s, e.Place.Stripe)
	got, good, err2 := stripe.Fetch(d, x.g, y, e.Place.Member)
	want += strings.Repeat("\x00", geom.Size(x.g)-len(want))
	if got != want || !good || err != api.OK || err2 != api.OK || crc.Sum(got) != y.Sums[e.Place.Member] {
		t.Fatalf("of %v there are %d bytes, %v, %d, %d", e, len(got), good, err, err2)
	}
}

func TestManyFresh(t *testing.T) { // 18.1: as many data as there is room for
	x := given{g: api.Geom{Shift: 3, K: 10, M: 2, Clusters: api.MaxClusters}, used: []int{0, 1}, data: map[int]string{}}
	x.s.Now = many(512, 3000)
	for n := 1; n <= 3000; n++ {
		x.data[n] = strings.Repeat("m", n%4096)
	}
	need, err := plan.Need(x.g, x.s)
	got, err2 := x.make()
	if err != api.OK || err2 != api.OK || len(got.Stripes) != 300 || need != 300*12+2*len(got.Pages) {
		t.Errorf("Need = %d, %d, Make = %s, %d", need, err, brief(got), err2)
	}
	for _, p := range []*pool.Pool{pool.New(), nil} {
		if got, err := plan.Make(x.g, x.s, p, x.use()); !blank(got) || err != api.ErrNone {
			t.Errorf("of an empty pool Make = %s, %d", brief(got), err)
		}
	}
}
