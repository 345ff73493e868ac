package plan_test

import (
	"fmt"
	"math"
	"reflect"
	"slices"
	"strings"
	"testing"

	"caulk/api"
	"caulk/chart"
	"caulk/pages"
	"caulk/plan"
	"caulk/pool"
	"caulk/state"
	"caulk/stripe"
)

// disk is the entry of a member of a stripe.
func disk(stripe, member int) api.Entry {
	return api.Entry{Kind: api.EntryDisk, Place: api.Place{Stripe: stripe, Member: member}}
}

// fresh is the entry of fresh data.
func fresh(n int) api.Entry {
	return api.Entry{Kind: api.EntryFresh, Fresh: n}
}

// build is the map of so many blocks, of tables of e entries, in which full has the entries that are no holes.
func build(e, blocks int, full map[int]api.Entry) api.Chart {
	c := api.Chart{Blocks: blocks}
	for b := range blocks {
		x, there := full[b]
		if !there || x == (api.Entry{}) {
			continue
		}
		n := len(c.Tables)
		if n == 0 || c.Tables[n-1].At != b/e {
			c.Tables = append(c.Tables, api.Table{At: b / e, L: make([]api.Entry, e)})
			n++
		}
		c.Tables[n-1].L[b%e] = x
	}
	return c
}

// given is what a plan is made of: fresh data by their numbers, and the clusters that are used.
type given struct {
	g    api.Geom
	s    api.State
	data map[int]string
	used []int
}

// sample has five fresh data, some in more than one place, a stripe that nothing refers to (5), and pages at 6 and 7. Its tables have 64 entries.
func sample() given {
	return given{
		g: api.Geom{Shift: 0, K: 2, M: 1, Clusters: 40},
		s: api.State{
			Now: build(64, 200, map[int]api.Entry{0: disk(3, 0), 5: fresh(7), 6: fresh(2), 70: fresh(7), 199: fresh(9)}),
			Snaps: []api.Snap{
				{Id: 0, Name: "a", Chart: build(64, 10, map[int]api.Entry{1: fresh(4), 9: disk(7, 1)})},
				{Id: 4, Name: strings.Repeat("n", api.MaxName)},
				{Id: 5, Name: "b", Chart: build(64, 200, map[int]api.Entry{5: fresh(2), 130: fresh(11)})},
			},
			Stripes: []api.Stripe{
				{Id: 3, At: []int{2, 3, 4}, Sums: []uint32{1, 2, 3}},
				{Id: 5, At: []int{9, 10, 11}, Sums: []uint32{4, 5, 6}},
				{Id: 7, At: []int{20, 21, 5}, Sums: []uint32{7, 8, 9}},
			},
			NextStripe: 8,
			NextSnap:   6,
		},
		data: map[int]string{2: "two", 4: strings.Repeat("4", 512), 7: "seven", 9: "", 11: "\x00eleven"},
		used: []int{0, 1, 2, 3, 4, 9, 10, 11, 20, 21, 5, 6, 7},
	}
}

// pool is a pool that has the data of x, and others beside them.
func (x given) pool() *pool.Pool {
	most := 0
	for n := range x.data {
		most = max(most, n)
	}
	p := pool.New()
	var ids []int
	for n := 1; n <= most+2; n++ {
		s, there := x.data[n]
		if there || n > most {
			ids = append(ids, n)
		}
		p.Add(s)
	}
	p.Keep(ids...)
	return p
}

// use is the use of the clusters of x.
func (x given) use() []bool {
	use := make([]bool, max(0, x.g.Clusters))
	for _, at := range x.used {
		if at < len(use) {
			use[at] = true
		}
	}
	return use
}

// make is the plan of x.
func (x given) make() (api.Plan, api.Errno) {
	return plan.Make(x.g, x.s, x.pool(), x.use())
}

// plain is x as lists of none are no lists at all, so that two such can be held against each other.
func plain[T any](x T) T {
	v := reflect.New(reflect.TypeOf(x)).Elem()
	v.Set(reflect.ValueOf(x))
	return copied(v).Interface().(T)
}

// copied is v in memory of its own, lists of none as none at all.
func copied(v reflect.Value) reflect.Value {
	to := reflect.New(v.Type()).Elem()
	switch v.Kind() {
	case reflect.Slice:
		for i := range v.Len() {
			to.Set(reflect.Append(to, copied(v.Index(i))))
		}
	case reflect.Struct:
		for i := range v.NumField() {
			to.Field(i).Set(copied(v.Field(i)))
		}
	default:
		to.Set(v)
	}
	return to
}

// same tells whether two things are the same; a list of none may be none at all.
func same[T any](a, b T) bool {
	return reflect.DeepEqual(plain(a), plain(b))
}

// blank tells whether nothing is in a plan.
func blank(p api.Plan) bool {
	return reflect.DeepEqual(p, api.Plan{})
}

// order is the numbers of what is fresh in s, as they stand first.
func order(g api.Geom, s api.State) []int {
	var l []int
	for _, c := range state.Charts(s) {
		for b := range c.Blocks {
			if x, _ := chart.Get(64<<g.Shift, c, b); x.Kind == api.EntryFresh && !slices.Contains(l, x.Fresh) {
				l = append(l, x.Fresh)
			}
		}
	}
	return l
}

// refers tells whether an entry of s is of the stripe.
func refers(s api.State, id int) bool {
	for _, c := range state.Charts(s) {
		for _, t := range c.Tables {
			for _, x := range t.L {
				if x.Kind == api.EntryDisk && x.Place.Stripe == id {
					return true
				}
			}
		}
	}
	return false
}

// lowest takes the n lowest clusters that are free, if there are so many.
func lowest(use []bool, n int) ([]int, bool) {
	var l []int
	for at := range use {
		if len(l) < n && !use[at] {
			use[at] = true
			l = append(l, at)
		}
	}
	return l, len(l) == n
}

// swapped is s in which x is in the place of all entries that are fresh under a number.
func swapped(g api.Geom, s api.State, n int, x api.Entry) api.State {
	l := state.Charts(s)
	for i := range l {
		l[i], _, _ = chart.Swap(64<<g.Shift, l[i], fresh(n), x)
	}
	s, _ = state.With(s, l...)
	return s
}

// byHand is the plan of a given that is right, step by step as the chapter's words say it.
func (x given) byHand(t *testing.T) (api.Plan, api.Errno) {
	t.Helper()
	use, want := x.use(), api.Plan{State: x.s}
	for l := order(x.g, x.s); len(l) > 0; l = l[min(len(l), x.g.K):] {
		at, enough := lowest(use, x.g.K+x.g.M)
		if !enough {
			return api.Plan{}, api.ErrSpace
		}
		var data []string
		for i, n := range l[:min(len(l), x.g.K)] {
			data = append(data, x.data[n])
			want.State = swapped(x.g, want.State, n, disk(want.State.NextStripe, i))
		}
		made, pieces, err := stripe.Make(x.g, want.State.NextStripe, at, data...)
		if err != api.OK {
			t.Fatalf("stripe.Make = %d", err)
		}
		want.Stripes, want.Pieces = append(want.Stripes, made), append(want.Pieces, pieces)
		want.State.NextStripe++
	}
	var kept []api.Stripe
	for _, y := range x.s.Stripes {
		if refers(want.State, y.Id) {
			kept = append(kept, y)
		}
	}
	want.State.Stripes = append(kept, want.Stripes...)
	return x.paged(t, want, use)
}

// paged is a plan whose stripes are done, with its pages, and its use.
func (x given) paged(t *testing.T, want api.Plan, use []bool) (api.Plan, api.Errno) {
	t.Helper()
	blob, err := state.Bytes(x.g, want.State)
	if err != api.OK {
		return api.Plan{}, err
	}
	count, _ := pages.Count(x.g, len(blob))
	at, enough := lowest(use, 2*count)
	if !enough {
		return api.Plan{}, api.ErrSpace
	}
	want.Length = len(blob)
	want.Pages, want.Root, err = pages.Build(x.g, blob, at)
	if err != api.OK {
		t.Fatalf("pages.Build = %d", err)
	}
	want.Use = make([]bool, x.g.Clusters)
	for _, c := range append(at, 0, 1) {
		want.Use[c] = true
	}
	for _, y := range want.State.Stripes {
		for _, c := range y.At {
			want.Use[c] = true
		}
	}
	return want, api.OK
}

// brief is of a plan what tells it apart from none.
func brief(p api.Plan) string {
	return fmt.Sprintf("%d new stripes, %d pages, %d bytes", len(p.Stripes), len(p.Pages), p.Length)
}

func TestMakeSample(t *testing.T) { // 18.1: all of a plan, told one by one
	x := sample()
	got, err := x.make()
	if err != api.OK {
		t.Fatalf("Make = %d", err)
	}
	now := build(64, 200, map[int]api.Entry{0: disk(3, 0), 5: disk(8, 0), 6: disk(8, 1), 70: disk(8, 0), 199: disk(9, 0)})
	first := build(64, 10, map[int]api.Entry{1: disk(9, 1), 9: disk(7, 1)})
	last := build(64, 200, map[int]api.Entry{5: disk(8, 1), 130: disk(10, 0)})
	if s := got.State; !same(s.Now, now) || !same(s.Snaps[0].Chart, first) || !same(s.Snaps[2].Chart, last) || s.NextStripe != 11 {
		t.Errorf("the State is %v", s)
	}
	if s := got.State; len(s.Snaps) != 3 || s.Snaps[1].Name != x.s.Snaps[1].Name || s.Snaps[2].Id != 5 || s.NextSnap != 6 {
		t.Errorf("the snapshots are %v", s.Snaps)
	}
	var ids []int
	for _, y := range got.State.Stripes {
		ids = append(ids, y.Id)
	}
	if !slices.Equal(ids, []int{3, 7, 8, 9, 10}) || !same(got.State.Stripes[2:], got.Stripes) {
		t.Errorf("the State's stripes are %v, the new ones %v", got.State.Stripes, got.Stripes)
	}
	for i, want := range []struct {
		at   []int
		data []string
	}{
		{[]int{8, 12, 13}, []string{"seven", "two"}},
		{[]int{14, 15, 16}, []string{"", strings.Repeat("4", 512)}},
		{[]int{17, 18, 19}, []string{"\x00eleven"}},
	} {
		made, pieces, _ := stripe.Make(x.g, 8+i, want.at, want.data...)
		if !same(got.Stripes[i], made) || !same(got.Pieces[i], pieces) {
			t.Errorf("the new stripe %d is %v", i, got.Stripes[i])
		}
	}
	if got.Length != 24+3*516+14+516+45+14+2*516+5*28 || len(got.Pages) != 8 {
		t.Errorf("the metadata have %d bytes, and %d pages", got.Length, len(got.Pages))
	}
	for i, y := range got.Pages {
		if y.Ptr.A != 22+2*i || y.Ptr.B != 23+2*i {
			t.Errorf("the page %d is at %d and %d", i, y.Ptr.A, y.Ptr.B)
		}
	}
	if got.Root != got.Pages[7].Ptr {
		t.Errorf("the root is %v", got.Root)
	}
	for at, is := range got.Use {
		if is != (at < 6 || at == 8 || at > 11 && at < 38) {
			t.Errorf("of %d the use is %v", at, is)
		}
	}
	if want, err := x.byHand(t); !same(got, want) || err != api.OK || len(got.Use) != 40 {
		t.Errorf("Make = %s, not %s, %d", brief(got), brief(want), err)
	}
}

// harmless are changes after which sample has a plan.
func harmless() map[string]func(x *given) {
	return map[string]func(x *given){
		"nothing":                         func(x *given) {},
		"nothing at all":                  func(x *given) { x.s, x.data = api.State{}, nil },
		"nothing fresh":                   func(x *given) { *x = settled() },
		"nothing fresh, at the last Id":   func(x *given) { *x = settled(); x.s.NextStripe = api.MaxId - 1 },
		"the last Ids":                    func(x *given) { x.s.NextStripe = api.MaxId - 4 },
		"the last Ids, and one part less": func(x *given) { x.s.NextStripe = api.MaxId - 4; x.s.Now.Tables[2].L[7] = fresh(7) },
		"one fresh alone": func(x *given) {
			x.s = api.State{Now: build(64, 1, map[int]api.Entry{0: fresh(2)})}
		},
		"fresh ones that fill their stripes": func(x *given) { x.s.Snaps = x.s.Snaps[:1] },
		"all dead":                           func(x *given) { x.s.Now, x.s.Snaps = api.Chart{}, nil },
		"none dead":                          func(x *given) { x.s.Now.Tables[0].L[9] = disk(5, 1) },
		"of a snapshot alone":                func(x *given) { x.s.Now = api.Chart{Blocks: 5} },
		"no more free than it takes":         func(x *given) { x.used = append(x.used, 38, 39) },
		"others free":                        func(x *given) { x.used = append(x.used, 8, 30) },
		"no old pages":                       func(x *given) { x.used = x.used[:11] },
		"wider clusters":                     func(x *given) { *x = wide() },
		"no parity":                          func(x *given) { *x = bare() },
		"much parity":                        func(x *given) { *x = much() },
	}
}

// settled is a given of which nothing is fresh.
func settled() given {
	x := sample()
	x.s.Now = build(64, 200, map[int]api.Entry{0: disk(3, 0), 5: disk(7, 1)})
	x.s.Snaps = x.s.Snaps[1:2]
	x.data = nil
	return x
}

// wide is a given of clusters of 64 KiB, and 8192 entries a table, at the greatest data.
func wide() given {
	x := given{g: api.Geom{Shift: 7, K: 3, M: 2, Clusters: 20}, used: []int{0, 1}}
	x.s.Now = build(8192, 8193, map[int]api.Entry{0: fresh(1), 8191: fresh(2), 8192: fresh(3)})
	x.s.NextStripe = 5
	x.data = map[int]string{1: strings.Repeat("w", api.MaxPiece), 2: "narrow", 3: strings.Repeat("v", api.MaxPiece-1)}
	return x
}

// bare is a given whose stripes have one member.
func bare() given {
	x := given{g: api.Geom{Shift: 1, K: 1, M: 0, Clusters: 30}, used: []int{0, 1, 10}}
	x.s.Stripes = []api.Stripe{{Id: 0, At: []int{10}, Sums: []uint32{9}}}
	x.s.Now = build(128, 300, map[int]api.Entry{0: fresh(3), 1: fresh(2), 2: disk(0, 0), 299: fresh(1)})
	x.s.NextStripe = 1
	x.data = map[int]string{1: "first", 2: strings.Repeat("2", 1024), 3: "third"}
	return x
}

// much is a given whose stripes have as many members as there may be.
func much() given {
	x := given{g: api.Geom{Shift: 0, K: 5, M: 250, Clusters: 300}, used: []int{0, 1}}
	x.s.Now = build(64, 2, map[int]api.Entry{0: fresh(6), 1: fresh(1)})
	x.data = map[int]string{1: "one", 6: "six"}
	return x
}

func TestMakeHarmless(t *testing.T) { // 18.1
	for say, do := range harmless() {
		x := sample()
		do(&x)
		want, err := x.byHand(t)
		if err != api.OK {
			t.Fatalf("%s: by hand there is none: %d", say, err)
		}
		s, use, p := plain(x.s), x.use(), x.pool()
		ids := p.Ids()
		if got, err := plan.Make(x.g, x.s, p, use); !same(got, want) || err != api.OK {
			t.Errorf("%s: Make = %s, %d, not %s", say, brief(got), err, brief(want))
		}
		if !same(s, x.s) || !same(use, x.use()) || !slices.Equal(ids, p.Ids()) {
			t.Errorf("%s: what was handed in is changed", say)
		}
	}
}

// wrong are changes after which a state, or its geometry, is not right.
func wrong() map[string]func(x *given) {
	return map[string]func(x *given){
		"no geometry":               func(x *given) { x.g = api.Geom{} },
		"too wide a geometry":       func(x *given) { x.g.Shift = 8 },
		"a shift below 0":           func(x *given) { x.g.Shift = math.MinInt },
		"a geometry of no data":     func(x *given) { x.g.K = 0 },
		"fewer members":             func(x *given) { x.g.M = 0 },
		"another size":              func(x *given) { x.g.Shift = 1 },
		"too few clusters":          func(x *given) { x.g.Clusters = 3 },
		"clusters below 0":          func(x *given) { x.g.Clusters = math.MinInt },
		"a stripe out of it":        func(x *given) { x.s.Stripes[2].At[1] = 40 },
		"a stripe that comes next":  func(x *given) { x.s.NextStripe = 7 },
		"too great a next stripe":   func(x *given) { x.s.NextStripe = api.MaxId },
		"stripes that don't rise":   func(x *given) { x.s.Stripes[1].Id = 3 },
		"a cluster of two stripes":  func(x *given) { x.s.Stripes[1].At[0] = 2 },
		"a snapshot without a name": func(x *given) { x.s.Snaps[0].Name = "" },
		"no such stripe":            func(x *given) { x.s.Now.Tables[0].L[1] = disk(4, 0) },
		"no such data":              func(x *given) { x.s.Now.Tables[0].L[1] = disk(3, 2) },
		"no such fresh number":      func(x *given) { x.s.Now.Tables[0].L[1] = fresh(0) },
		"too great a fresh number":  func(x *given) { x.s.Now.Tables[0].L[1] = fresh(api.MaxFresh + 1) },
		"a table of another length": func(x *given) { x.s.Now.Tables[0].L = x.s.Now.Tables[0].L[:63] },
		"blocks below 0":            func(x *given) { x.s.Snaps[1].Chart.Blocks = -1 },
	}
}

func TestWrongStates(t *testing.T) { // 18.1, 18.2
	for say, do := range wrong() {
		x := sample()
		do(&x)
		for _, use := range [][]bool{x.use(), sample().use(), nil} {
			if got, err := plan.Make(x.g, x.s, x.pool(), use); !blank(got) || err != api.ErrForm {
				t.Errorf("%s: Make = %s, %d", say, brief(got), err)
			}
		}
		if got, err := plan.Need(x.g, x.s); got != 0 || err != api.ErrForm {
			t.Errorf("%s: Need = %d, %d", say, got, err)
		}
		for _, l := range [][]api.Ptr{nil, {{A: 30, B: 31}}, {{A: -1, B: 0}}} {
			if got, err := plan.Uses(x.g, x.s, l); got != nil || err != api.ErrForm {
				t.Errorf("%s: Uses = %v, %d", say, got, err)
			}
		}
	}
}

func TestWrongUses(t *testing.T) { // 18.1
	x := sample()
	for n := range 45 {
		if n == 40 {
			continue
		}
		use := make([]bool, n)
		copy(use, x.use())
		if got, err := plan.Make(x.g, x.s, x.pool(), use); !blank(got) || err != api.ErrForm {
			t.Errorf("of %d places Make = %s, %d", n, brief(got), err)
		}
	}
	for _, at := range x.used {
		use := x.use()
		use[at] = false
		got, err := plan.Make(x.g, x.s, x.pool(), use)
		if isPage := at == 6 || at == 7; isPage == blank(got) || isPage != (err == api.OK) || !isPage && err != api.ErrForm {
			t.Errorf("with %d free Make = %s, %d", at, brief(got), err)
		}
	}
	for _, at := range settled().used[:11] { // nothing is fresh, so that nothing but the pages would come there
		y := settled()
		use := y.use()
		use[at] = false
		if got, err := plan.Make(y.g, y.s, y.pool(), use); !blank(got) || err != api.ErrForm {
			t.Errorf("of nothing fresh, with %d free, Make = %s, %d", at, brief(got), err)
		}
	}
	if got, err := plan.Make(x.g, x.s, x.pool(), make([]bool, 40)); !blank(got) || err != api.ErrForm {
		t.Errorf("with all free Make = %s, %d", brief(got), err)
	}
	if got, err := plan.Make(x.g, api.State{}, pool.New(), make([]bool, 40)); !blank(got) || err != api.ErrForm {
		t.Errorf("of nothing, with all free, Make = %s, %d", brief(got), err)
	}
}

// fault is a change after which sample has no plan, and the error of that. Those ahead of it in the list come ahead of it.
type fault struct {
	say string
	err api.Errno
	do  func(x *given)
}

// faults are changes that can befall sample together.
func faults() []fault {
	return []fault{
		{"a state that is not right", api.ErrForm, func(x *given) { x.s.Stripes[1].Sums = nil }},
		{"a cluster that is free", api.ErrForm, func(x *given) { x.used = slices.DeleteFunc(x.used, func(at int) bool { return at == 10 }) }},
		{"data that are not there", api.ErrNone, func(x *given) { x.s.Snaps[2].Chart.Tables[1].L[2] = fresh(14) }},
		{"data longer than a cluster", api.ErrNone, func(x *given) { x.data[2] = strings.Repeat("2", 513) }},
		{"too great Ids", api.ErrFull, func(x *given) { x.s.NextStripe = api.MaxId - 3 }},
		{"too few free for the stripes", api.ErrSpace, func(x *given) { fill(x, 8) }},
		{"too long", api.ErrLong, longer},
		{"too few free for the pages", api.ErrSpace, func(x *given) { fill(x, 24) }},
	}
}

// longer makes the metadata too long, by maps without anything fresh.
func longer(x *given) {
	full := map[int]api.Entry{}
	for b := 0; b < api.MaxBlocks; b += 64 {
		full[b] = disk(3, 1)
	}
	x.s.Snaps[1].Chart = build(64, api.MaxBlocks, full)
	x.s.NextSnap = 40
	for id := 6; id < 8; id++ {
		x.s.Snaps = append(x.s.Snaps, api.Snap{Id: id, Name: "long" + string(rune('0'+id)), Chart: build(64, api.MaxBlocks, full)})
	}
}

// fill leaves n clusters free, at most, of those that sample has free.
func fill(x *given, n int) {
	for at := x.g.Clusters - 1; at >= 0; at-- {
		if slices.Contains(sample().used, at) {
			continue
		}
		if n == 0 {
			x.used = append(x.used, at)
			continue
		}
		n--
	}
}

func TestMakeFaults(t *testing.T) { // 18.1: each error alone, and with each that comes behind it
	l := faults()
	for i, first := range l {
		x := sample()
		first.do(&x)
		if got, err := x.make(); !blank(got) || err != first.err {
			t.Errorf("%s: Make = %s, %d, not %d", first.say, brief(got), err, first.err)
		}
		for _, other := range l[i+1:] {
			x := sample()
			first.do(&x)
			other.do(&x)
			if got, err := x.make(); !blank(got) || err != first.err {
				t.Errorf("%s, and %s: Make = %s, %d, not %d", first.say, other.say, brief(got), err, first.err)
			}
		}
	}
}

func TestMakeNone(t *testing.T) { // 18.1: whichever of the fresh data it is
	for n := range sample().data {
		x := sample()
		p := x.pool()
		p.Keep(slices.DeleteFunc(p.Ids(), func(id int) bool { return id == n })...)
		if got, err := plan.Make(x.g, x.s, p, x.use()); !blank(got) || err != api.ErrNone {
			t.Errorf("without %d Make = %s, %d", n, brief(got), err)
		}
		x.data[n] = strings.Repeat("l", 512)
		if got, err := x.make(); blank(got) || err != api.OK {
			t.Errorf("with a full %d Make = %s, %d", n, brief(got), err)
		}
		x.data[n] += "l"
		if got, err := x.make(); !blank(got) || err != api.ErrNone {
			t.Errorf("with too long a %d Make = %s, %d", n, brief(got), err)
		}
	}
	x := sample()
	x.data[3] = strings.Repeat("l", 600) // to which nothing refers
	if got, err := x.make(); blank(got) || err != api.OK {
		t.Errorf("Make = %s, %d", brief(got), err)
	}
	if got, err := plan.Make(x.g, x.s, nil, x.use()); !blank(got) || err != api.ErrNone { // it does not panic
		t.Errorf("of no pool Make = %s, %d", brief(got), err)
	}
	greatest := api.State{Now: build(64, 1, map[int]api.Entry{0: fresh(api.MaxFresh)})}
	if got, err := plan.Make(x.g, greatest, x.pool(), x.use()); !blank(got) || err != api.ErrNone {
		t.Errorf("of the greatest number Make = %s, %d", brief(got), err)
	}
}

func TestMakeFull(t *testing.T) { // 18.1: the edges of the stripes' numbers
	for more, numbers := range [][]int{nil, {2, 4}, {2, 4, 7}, {2, 4, 7, 9, 11}} { // so many new stripes, of these data
		x := sample()
		full := map[int]api.Entry{0: disk(3, 0), 1: disk(7, 0)}
		for i, n := range numbers {
			full[5+i] = fresh(n)
		}
		x.s.Now, x.s.Snaps = build(64, 100, full), nil
		for next := api.MaxId - 5; next < api.MaxId; next++ {
			x.s.NextStripe = next
			got, err := x.make()
			if next+more < api.MaxId && (err != api.OK || got.State.NextStripe != next+more || len(got.Stripes) != more) {
				t.Errorf("%d stripes from %d on: Make = %d stripes, %d", more, next, len(got.Stripes), err)
			}
			if next+more >= api.MaxId && (!blank(got) || err != api.ErrFull) {
				t.Errorf("%d stripes from %d on: Make = %s, %d", more, next, brief(got), err)
			}
		}
	}
}
