package stripe_test

import (
	"hash/crc32"
	"math"
	"reflect"
	"slices"
	"strings"
	"testing"

	"caulk/api"
	"caulk/dev"
	"caulk/geom"
	"caulk/gf"
	"caulk/stripe"
)

// noise is n bytes without a pattern, always the same ones for one seed.
func noise(seed uint32, n int) string {
	l := make([]byte, n)
	for i := range l {
		seed = seed*1664525 + 1013904223
		l[i] = byte(seed >> 24)
	}
	return string(l)
}

// right are geometries that are right, and have clusters for a stripe.
func right() []api.Geom {
	return []api.Geom{
		{K: 2, M: 1, Clusters: 10},
		{Shift: 1, K: 3, M: 2, Clusters: 12},
		{K: 1, M: 0, Clusters: 4},
		{K: 4, M: 0, Clusters: 6},
		{K: 1, M: 3, Clusters: 9},
		{Shift: 2, K: 4, M: 4, Clusters: 10},
		{Shift: 7, K: 5, M: 1, Clusters: 20},
		{K: 1, M: 1, Clusters: api.MaxClusters},
	}
}

// wrong are geometries that are not right.
func wrong() []api.Geom {
	return []api.Geom{
		{},
		{Shift: -1, K: 2, M: 1, Clusters: 8},
		{Shift: 8, K: 2, M: 1, Clusters: 8},
		{Shift: math.MinInt, K: 2, M: 1, Clusters: 8},
		{K: 0, M: 3, Clusters: 8},
		{K: 4, M: -1, Clusters: 8},
		{K: 200, M: 56, Clusters: 300},
		{K: 2, M: 1, Clusters: 3},
		{K: 2, M: 1, Clusters: api.MaxClusters + 1},
		{Shift: 7, K: 2, M: 1, Clusters: 257},
	}
}

// is ends a test, if what a call answered is another error.
func is(t *testing.T, say string, got, want api.Errno) {
	t.Helper()
	if got != want {
		t.Fatalf("%s = %d, not %d", say, got, want)
	}
}

// sum is the sum of s, by the library.
func sum(s string) uint32 {
	return crc32.Checksum([]byte(s), crc32.MakeTable(crc32.Castagnoli))
}

// spread is so many clusters of a geometry, from 2 on, in no order, all unlike.
func spread(g api.Geom, many int) []int {
	var l []int
	for at := 2; at < g.Clusters; at++ {
		l = append(l, at)
	}
	seed := uint32(many)
	for i := range l {
		seed = seed*1664525 + 1013904223
		j := int(seed>>8) % len(l)
		l[i], l[j] = l[j], l[i]
	}
	return l[:min(many, len(l))]
}

// size is how many bytes a cluster of a geometry has.
func size(g api.Geom) int {
	return 512 << g.Shift
}

// byHand is all pieces of a stripe of data, as the chapters' words say it.
func byHand(g api.Geom, data []string) []string {
	var all []string
	for i := range g.K {
		part := ""
		if i < len(data) {
			part = data[i]
		}
		all = append(all, part+strings.Repeat("\x00", size(g)-len(part)))
	}
	for i := range g.M {
		parity := make([]byte, size(g))
		for j := range g.K {
			c, _ := gf.Inv(byte((g.K + i) ^ j))
			for x := range parity {
				parity[x] ^= gf.Mul(c, all[j][x])
			}
		}
		all = append(all, string(parity))
	}
	return all
}

// sums is the sums of these pieces.
func sums(pieces []string) []uint32 {
	var l []uint32
	for _, s := range pieces {
		l = append(l, sum(s))
	}
	return l
}

// kept is a stripe, and the device that it was written to.
type kept struct {
	g      api.Geom
	d      *dev.Dev
	s      api.Stripe
	pieces []string
}

// laid is a stripe of full clusters, written to a device, and flushed.
func laid(t *testing.T, g api.Geom, seed uint32) kept {
	t.Helper()
	var data []string
	for i := range g.K {
		data = append(data, noise(seed+uint32(i), size(g)))
	}
	s, pieces, err := stripe.Make(g, 7, spread(g, g.K+g.M), data...)
	is(t, "Make", err, api.OK)
	return written(t, g, s, pieces)
}

// written is the stripe s of these pieces, written to a device, and flushed.
func written(t *testing.T, g api.Geom, s api.Stripe, pieces []string) kept {
	t.Helper()
	d, err := dev.Load(noise(99, geom.Sectors(g)*api.Sector))
	is(t, "Load", err, api.OK)
	is(t, "Write", stripe.Write(d, g, s, pieces), api.OK)
	is(t, "Flush", d.Flush(), api.OK)
	return kept{g: g, d: d, s: s, pieces: pieces}
}

// spoil makes members bad: those of clusters of even numbers by an erased sector, the others by a garbled one.
func (k kept) spoil(t *testing.T, members ...int) {
	t.Helper()
	for _, i := range members {
		at := k.s.At[i]
		sector := at<<k.g.Shift + at/2%(1<<k.g.Shift)
		if at%2 == 0 {
			is(t, "Erase", k.d.Erase(sector), api.OK)
		} else {
			is(t, "Garble", k.d.Garble(sector, at%509, 1<<(at%32)), api.OK)
		}
	}
}

// surveys ends a test, if other members are bad.
func (k kept) surveys(t *testing.T, bad ...int) {
	t.Helper()
	want := make([]bool, len(k.s.At))
	for i := range want {
		want[i] = !slices.Contains(bad, i)
	}
	got, err := stripe.Survey(k.d, k.g, k.s)
	if !slices.Equal(got, want) || err != api.OK {
		t.Fatalf("Survey(%v) = %v, %d, not %v", k.g, got, err, want)
	}
}

// fetches ends a test, if a member's bytes are not fetched as they were written.
func (k kept) fetches(t *testing.T, i int, good bool) {
	t.Helper()
	got, whole, err := stripe.Fetch(k.d, k.g, k.s, i)
	if got != k.pieces[i] || whole != good || err != api.OK {
		t.Fatalf("Fetch(%v, %d) = %d bytes, %v, %d, not %v", k.g, i, len(got), whole, err, good)
	}
}

// fails ends a test, if a fetch answers another error, or something beside it.
func (k kept) fails(t *testing.T, i int, want api.Errno) {
	t.Helper()
	got, whole, err := stripe.Fetch(k.d, k.g, k.s, i)
	if got != "" || whole || err != want {
		t.Fatalf("Fetch(%v, %d) = %d bytes, %v, %d, not %d", k.g, i, len(got), whole, err, want)
	}
}

// heals ends a test, if other members are told, or other ones written anew.
func (k kept) heals(t *testing.T, healed bool, bad ...int) {
	t.Helper()
	var want []api.Copy
	for _, i := range bad {
		want = append(want, api.Copy{At: k.s.At[i], Healed: healed})
	}
	k.copies(t, want)
}

// copies ends a test, if Heal answers others.
func (k kept) copies(t *testing.T, want []api.Copy) {
	t.Helper()
	got, err := stripe.Heal(k.d, k.g, k.s)
	if !slices.Equal(got, want) || err != api.OK {
		t.Fatalf("Heal(%v) = %v, %d, not %v", k.g, got, err, want)
	}
}

// places is where bits has a 1, of n places.
func places(bits, n int) []int {
	var l []int
	for i := range n {
		if bits>>i&1 == 1 {
			l = append(l, i)
		}
	}
	return l
}

// wrongs are stripes that are not right for a geometry of K 2, M 1, Clusters 10.
func wrongs() map[string]api.Stripe {
	three := []uint32{1, 2, 3}
	return map[string]api.Stripe{
		"none":                        {},
		"an id below 0":               {Id: -1, At: []int{2, 3, 4}, Sums: three},
		"an id far below 0":           {Id: math.MinInt, At: []int{2, 3, 4}, Sums: three},
		"an id above all":             {Id: api.MaxId + 1, At: []int{2, 3, 4}, Sums: three},
		"an id far above all":         {Id: math.MaxInt, At: []int{2, 3, 4}, Sums: three},
		"no clusters":                 {Id: 1, Sums: three},
		"too few clusters":            {Id: 1, At: []int{2, 3}, Sums: three},
		"too many clusters":           {Id: 1, At: []int{2, 3, 4, 5}, Sums: three},
		"one more, two alike":         {Id: 1, At: []int{2, 3, 4, 4}, Sums: three},
		"no sums":                     {Id: 1, At: []int{2, 3, 4}},
		"too few sums":                {Id: 1, At: []int{2, 3, 4}, Sums: three[:2]},
		"too many sums":               {Id: 1, At: []int{2, 3, 4}, Sums: append(three, 4)},
		"too few of both":             {Id: 1, At: []int{2, 3}, Sums: three[:2]},
		"too many of both":            {Id: 1, At: []int{2, 3, 4, 5}, Sums: append(three, 4)},
		"the cluster 0":               {Id: 1, At: []int{0, 3, 4}, Sums: three},
		"the cluster 1":               {Id: 1, At: []int{5, 1, 4}, Sums: three},
		"a cluster below 0":           {Id: 1, At: []int{2, 3, -1}, Sums: three},
		"a cluster far below 0":       {Id: 1, At: []int{2, math.MinInt, 4}, Sums: three},
		"a cluster above all":         {Id: 1, At: []int{10, 3, 4}, Sums: three},
		"one above, in between":       {Id: 1, At: []int{2, 10, 4}, Sums: three},
		"one far above":               {Id: 1, At: []int{2, 3, math.MaxInt}, Sums: three},
		"one by its low bits":         {Id: 1, At: []int{2, 1<<32 + 3, 4}, Sums: three},
		"the first two alike":         {Id: 1, At: []int{5, 5, 4}, Sums: three},
		"the last two alike":          {Id: 1, At: []int{5, 4, 4}, Sums: three},
		"two alike, not side by side": {Id: 1, At: []int{5, 4, 5}, Sums: three},
		"all alike":                   {Id: 1, At: []int{5, 5, 5}, Sums: three},
	}
}

func TestCheck(t *testing.T) { // 11.1
	g := api.Geom{K: 2, M: 1, Clusters: 10}
	for _, s := range []api.Stripe{
		{Id: 0, At: []int{2, 3, 4}, Sums: []uint32{0, 0, 0}},
		{Id: api.MaxId, At: []int{9, 2, 5}, Sums: []uint32{math.MaxUint32, 1, 1}},
		{Id: api.MaxId - 1, At: []int{4, 3, 2}, Sums: []uint32{1, 2, 3}},
	} {
		is(t, "Check", stripe.Check(g, s), api.OK)
	}
	for say, s := range wrongs() {
		is(t, "Check of "+say, stripe.Check(g, s), api.ErrForm)
	}
	for _, g := range right() {
		n := g.K + g.M
		s := api.Stripe{Id: 1, At: spread(g, n), Sums: make([]uint32, n)}
		is(t, "Check", stripe.Check(g, s), api.OK)
		at := slices.Clone(s.At)
		s.At[n-1] = g.Clusters
		is(t, "Check", stripe.Check(g, s), api.ErrForm)
		s.At = at
		s.Sums = s.Sums[1:]
		is(t, "Check", stripe.Check(g, s), api.ErrForm)
	}
	for _, g := range wrong() {
		for _, n := range []int{0, 3, g.K + g.M} {
			is(t, "Check", stripe.Check(g, api.Stripe{At: spread(api.Geom{Clusters: 400}, max(n, 0)), Sums: make([]uint32, max(n, 0))}), api.ErrForm)
		}
	}
	if s := (api.Stripe{At: []int{9, 2, 5}, Sums: []uint32{3, 1, 2}}); stripe.Check(g, s) != api.OK || !slices.Equal(s.At, []int{9, 2, 5}) || !slices.Equal(s.Sums, []uint32{3, 1, 2}) {
		t.Error("Check changed what was handed in")
	}
}

func TestCheckMost(t *testing.T) { // 11.1: as many members as there may be, and as many as clusters
	g := api.Geom{K: 200, M: 55, Clusters: 257}
	s := api.Stripe{At: spread(g, 255), Sums: make([]uint32, 255)}
	is(t, "Check", stripe.Check(g, s), api.OK)
	g.Clusters--
	is(t, "Check", stripe.Check(g, s), api.ErrForm)
	g = api.Geom{K: 2, M: 1, Clusters: 4}
	is(t, "Check", stripe.Check(g, api.Stripe{At: []int{2, 3, 3}, Sums: make([]uint32, 3)}), api.ErrForm)
	is(t, "Check", stripe.Check(g, api.Stripe{At: []int{2, 3, 4}, Sums: make([]uint32, 3)}), api.ErrForm)
}

func TestFirst(t *testing.T) { // 11.1: all that take a stripe answer Check's error ahead of all else
	g := api.Geom{K: 2, M: 1, Clusters: 10}
	d, err := dev.New(10)
	is(t, "New", err, api.OK)
	d.Fuse(0)
	is(t, "Flush", d.Flush(), api.ErrDown)
	all := func(say string, g api.Geom, s api.Stripe) {
		t.Helper()
		is(t, "Write of "+say, stripe.Write(d, g, s, nil), api.ErrForm)
		if l, err := stripe.Survey(d, g, s); l != nil || err != api.ErrForm {
			t.Errorf("Survey of %s = %v, %d", say, l, err)
		}
		for _, i := range []int{-1, 0, 1, 2, 100} {
			if bytes, good, err := stripe.Fetch(d, g, s, i); bytes != "" || good || err != api.ErrForm {
				t.Errorf("Fetch of %s = %q, %v, %d", say, bytes, good, err)
			}
		}
		if l, err := stripe.Heal(d, g, s); l != nil || err != api.ErrForm {
			t.Errorf("Heal of %s = %v, %d", say, l, err)
		}
	}
	for say, s := range wrongs() {
		all(say, g, s)
	}
	for _, g := range wrong() {
		all("a wrong geometry", g, api.Stripe{At: []int{2, 3, 4}, Sums: []uint32{1, 2, 3}})
	}
}

func TestMake(t *testing.T) { // 11.1: against the same, made by hand
	for _, g := range right() {
		n := g.K + g.M
		whole := make([]string, g.K)
		for i := range whole {
			whole[i] = noise(uint32(i), size(g))
		}
		for _, data := range [][]string{
			whole, whole[:1], whole[:g.K-g.K/2], {""}, {"a"}, make([]string, g.K),
			{noise(3, size(g)-1)}, {strings.Repeat("\xff", size(g))}, slices.Repeat([]string{"text\x00"}, g.K),
		} {
			at, was := spread(g, n), slices.Clone(data)
			s, pieces, err := stripe.Make(g, 12, at, data...)
			want := byHand(g, data)
			if !slices.Equal(pieces, want) || err != api.OK {
				t.Fatalf("Make(%v, of %d) = %d pieces, %d", g, len(data), len(pieces), err)
			}
			if !reflect.DeepEqual(s, api.Stripe{Id: 12, At: at, Sums: sums(want)}) {
				t.Fatalf("Make(%v, of %d) = %v", g, len(data), s)
			}
			if !slices.Equal(at, spread(g, n)) || !slices.Equal(data, was) {
				t.Fatal("Make changed what was handed in")
			}
			is(t, "Check", stripe.Check(g, s), api.OK)
		}
	}
}

func TestMakeWrong(t *testing.T) { // 11.1: the first error, in the order that is told
	g := api.Geom{Shift: 1, K: 2, M: 1, Clusters: 10}
	at, long := []int{2, 9, 4}, strings.Repeat("a", 1025)
	for _, y := range []struct {
		g    api.Geom
		id   int
		at   []int
		data []string
		want api.Errno
	}{
		{g, 0, at, []string{"a"}, api.OK},
		{g, api.MaxId, at, []string{long[1:], long[1:]}, api.OK},
		{g, 0, at, nil, api.ErrRange},
		{g, 0, at, []string{"a", "b", "c"}, api.ErrRange},
		{g, 0, at, []string{"a", "b", long}, api.ErrRange},
		{g, -1, nil, nil, api.ErrRange},
		{g, -1, nil, []string{"a", "b", "c"}, api.ErrRange},
		{g, 0, at, []string{long}, api.ErrLong},
		{g, 0, at, []string{"a", long}, api.ErrLong},
		{g, -1, nil, []string{"a", long}, api.ErrLong},
		{g, 0, []int{2, 2, 2}, []string{long, "a"}, api.ErrLong},
		{g, -1, at, []string{"a"}, api.ErrForm},
		{g, api.MaxId + 1, at, []string{"a"}, api.ErrForm},
		{g, 0, nil, []string{"a"}, api.ErrForm},
		{g, 0, at[:2], []string{"a"}, api.ErrForm},
		{g, 0, []int{2, 3, 4, 5}, []string{"a"}, api.ErrForm},
		{g, 0, []int{2, 3, 2}, []string{"a"}, api.ErrForm},
		{g, 0, []int{1, 3, 2}, []string{"a"}, api.ErrForm},
		{g, 0, []int{3, 2, 10}, []string{"a"}, api.ErrForm},
		{api.Geom{K: 3, M: 1, Clusters: 4}, 0, []int{2, 3, 4, 5}, []string{"a"}, api.ErrForm}, // there are no such clusters
	} {
		s, pieces, err := stripe.Make(y.g, y.id, y.at, y.data...)
		is(t, "Make", err, y.want)
		if err != api.OK && (!reflect.DeepEqual(s, api.Stripe{}) || pieces != nil) {
			t.Errorf("beside %d Make answers %v, %d pieces", err, s, len(pieces))
		}
	}
	for _, g := range wrong() {
		for _, data := range [][]string{nil, {"a"}, {"a", long}, {"a", "b", "c", "d", "e"}} {
			s, pieces, err := stripe.Make(g, 0, at, data...)
			if !reflect.DeepEqual(s, api.Stripe{}) || pieces != nil || err != api.ErrForm {
				t.Errorf("Make(%v) = %v, %d pieces, %d", g, s, len(pieces), err)
			}
		}
	}
}

func TestWrite(t *testing.T) { // 11.1: each piece to its cluster, and nothing else
	for _, g := range right() {
		k := laid(t, g, 5)
		want := []byte(noise(99, geom.Sectors(g)*api.Sector))
		for i, at := range k.s.At {
			copy(want[at*size(g):], k.pieces[i])
		}
		if k.d.Bytes() != string(want) {
			t.Fatalf("Write(%v) wrote other bytes", g)
		}
		if got := k.d.Writes(); got != len(k.s.At)<<g.Shift {
			t.Fatalf("Write(%v) wrote %d sectors", g, got)
		}
	}
}

func TestWriteAny(t *testing.T) { // 11.1: pieces that do not fit together, or have other sums, are written all the same
	g := api.Geom{K: 2, M: 1, Clusters: 10}
	s := api.Stripe{At: []int{9, 4, 2}, Sums: []uint32{1, 2, 3}}
	pieces := []string{noise(1, 512), noise(2, 512), noise(3, 512)}
	d, err := dev.New(10)
	is(t, "New", err, api.OK)
	is(t, "Write", stripe.Write(d, g, s, pieces), api.OK)
	for i, at := range s.At {
		if got, err := d.Read(at); got != pieces[i] || err != api.OK {
			t.Errorf("the cluster %d has other bytes, %d", at, err)
		}
	}
}

func TestWriteOrder(t *testing.T) { // 11.1: member by member, up to the first error
	g := api.Geom{K: 3, M: 2, Clusters: 10}
	order := []int{9, 4, 7, 2, 5}
	s, pieces, err := stripe.Make(g, 1, order, "a", "b", "c")
	is(t, "Make", err, api.OK)
	waits := func(d *dev.Dev, n int) {
		t.Helper()
		if want := slices.Sorted(slices.Values(order[:n])); !slices.Equal(d.Waiting(), want) {
			t.Fatalf("the sectors %v wait, not %v", d.Waiting(), want)
		}
	}
	for fuse := range 7 {
		d, err := dev.New(10)
		is(t, "New", err, api.OK)
		d.Fuse(fuse)
		want := api.ErrDown
		if fuse >= len(order) {
			want = api.OK
		}
		is(t, "Write", stripe.Write(d, g, s, pieces), want)
		waits(d, min(fuse, len(order)))
	}
	for i := range order {
		for _, part := range []string{"", "short", strings.Repeat("a", 511), strings.Repeat("a", 513)} {
			d, err := dev.New(10)
			is(t, "New", err, api.OK)
			l := slices.Clone(pieces)
			l[i] = part
			is(t, "Write", stripe.Write(d, g, s, l), api.ErrForm)
			waits(d, i)
		}
	}
	for n := range 8 {
		if n == len(order) {
			continue
		}
		d, err := dev.New(10)
		is(t, "New", err, api.OK)
		is(t, "Write", stripe.Write(d, g, s, slices.Concat(pieces, pieces)[:n]), api.ErrForm)
		waits(d, 0)
	}
	small, err := dev.New(9) // without the cluster 9, which is the first
	is(t, "New", err, api.OK)
	is(t, "Write", stripe.Write(small, g, s, pieces), api.ErrRange)
	waits(small, 0)
}

func TestEachPattern(t *testing.T) { // 11.2, 11.3, 11.5: whichever members are bad
	for _, g := range []api.Geom{
		{K: 2, M: 1, Clusters: 10},
		{Shift: 1, K: 3, M: 2, Clusters: 12},
		{K: 1, M: 0, Clusters: 4},
		{K: 3, M: 0, Clusters: 6},
		{K: 1, M: 3, Clusters: 9},
		{K: 4, M: 4, Clusters: 20},
	} {
		n := g.K + g.M
		for bits := range 1 << n {
			bad := places(bits, n)
			k := laid(t, g, uint32(bits))
			k.spoil(t, bad...)
			k.surveys(t, bad...)
			for i := range g.K {
				if good := !slices.Contains(bad, i); good || len(bad) <= g.M {
					k.fetches(t, i, good)
				} else {
					k.fails(t, i, api.ErrDamaged)
				}
			}
			writes := k.d.Writes()
			if len(bad) > g.M {
				k.heals(t, false, bad...)
				k.surveys(t, bad...)
				if k.d.Writes() != writes {
					t.Fatalf("Heal(%v) of %v wrote %d sectors", g, bad, k.d.Writes()-writes)
				}
				continue
			}
			k.heals(t, true, bad...)
			if got := k.d.Writes() - writes; got != len(bad)<<g.Shift {
				t.Fatalf("Heal(%v) of %v wrote %d sectors", g, bad, got)
			}
			k.surveys(t)
			k.heals(t, true)
			is(t, "Flush", k.d.Flush(), api.OK)
			k.spoil(t, places(^bits, n)[:min(g.M, n-len(bad))]...) // others go, and what was healed brings them back
			for i := range g.K {
				got, _, err := stripe.Fetch(k.d, g, k.s, i)
				if got != k.pieces[i] || err != api.OK {
					t.Fatalf("Fetch(%v, %d) behind a heal of %v = %d bytes, %d", g, i, bad, len(got), err)
				}
			}
		}
	}
}

func TestMost(t *testing.T) { // 11.2, 11.3, 11.5: with as many members as there may be
	g := api.Geom{K: 200, M: 55, Clusters: 257}
	k := laid(t, g, 1)
	k.surveys(t)
	var bad []int
	for i := 0; len(bad) < 55; i += 4 {
		bad = append(bad, i)
	}
	k.spoil(t, bad...)
	k.surveys(t, bad...)
	k.fetches(t, 0, false)
	k.fetches(t, 1, true)
	k.fetches(t, 196, false)
	k.fails(t, 200, api.ErrRange)
	k.heals(t, true, bad...)
	k.surveys(t)
	k.spoil(t, 254)
	k.fetches(t, 199, true)
}

func TestGreat(t *testing.T) { // 11.2, 11.3: with clusters of the greatest size
	g := api.Geom{Shift: 7, K: 5, M: 1, Clusters: 20}
	for i := range 6 {
		k := laid(t, g, 3)
		k.spoil(t, i)
		k.surveys(t, i)
		if i < 5 {
			k.fetches(t, i, false)
		}
		k.heals(t, true, i)
		k.surveys(t)
	}
}

func TestFetchRange(t *testing.T) { // 11.2: of data alone, ahead of all that is asked of the device
	for _, g := range right() {
		k := laid(t, g, 1)
		for _, i := range []int{-1, math.MinInt, g.K, g.K + 1, g.K + g.M, math.MaxInt, 1 << 32} {
			k.fails(t, i, api.ErrRange)
		}
		k.fetches(t, g.K-1, true)
		k.d.Fuse(0)
		is(t, "Flush", k.d.Flush(), api.ErrDown)
		k.fails(t, -1, api.ErrRange)
		k.fails(t, g.K, api.ErrRange)
		k.fails(t, 0, api.ErrDown)
	}
}

func TestOtherSums(t *testing.T) { // 11.2, 11.3: what comes back by the others, but has another sum, is damaged
	g := api.Geom{K: 3, M: 2, Clusters: 10}
	for i := range 5 {
		k := laid(t, g, 8)
		k.s.Sums[i]++
		k.surveys(t, i)
		if i < 3 {
			k.fails(t, i, api.ErrDamaged)
		}
		before := k.d.Writes()
		k.heals(t, false, i)
		if k.d.Writes() != before {
			t.Fatal("Heal wrote something")
		}
		other := (i + 2) % 5
		k.spoil(t, other)
		if other < 3 {
			k.fetches(t, other, false)
		}
		l := []api.Copy{{At: k.s.At[i]}, {At: k.s.At[other], Healed: true}}
		if other < i {
			slices.Reverse(l)
		}
		k.copies(t, l)
		k.surveys(t, i)
	}
}

func TestOtherStripes(t *testing.T) { // 11.2, 11.3: members that are not of one stripe: those first K that are not bad bring back
	g := api.Geom{K: 2, M: 2, Clusters: 10}
	pieces := byHand(g, []string{"a", "b"})
	pieces[3] = noise(1, 512) // the last one is of no stripe with the others
	s := api.Stripe{Id: 3, At: []int{8, 3, 5, 2}, Sums: sums(pieces)}
	for _, y := range []struct {
		bad    []int
		fetch  []api.Errno
		healed []bool
	}{
		{nil, []api.Errno{api.OK, api.OK}, nil},
		{[]int{0}, []api.Errno{api.OK, api.OK}, []bool{true}},
		{[]int{1}, []api.Errno{api.OK, api.OK}, []bool{true}},
		{[]int{2}, []api.Errno{api.OK, api.OK}, []bool{true}},
		{[]int{3}, []api.Errno{api.OK, api.OK}, []bool{false}},
		{[]int{0, 1}, []api.Errno{api.ErrDamaged, api.ErrDamaged}, []bool{false, false}},
		{[]int{0, 2}, []api.Errno{api.ErrDamaged, api.OK}, []bool{false, false}},
		{[]int{1, 2}, []api.Errno{api.OK, api.ErrDamaged}, []bool{false, false}},
		{[]int{0, 3}, []api.Errno{api.OK, api.OK}, []bool{true, false}},
		{[]int{2, 3}, []api.Errno{api.OK, api.OK}, []bool{true, false}},
	} {
		k := written(t, g, s, pieces)
		k.spoil(t, y.bad...)
		var want []api.Copy
		for j, i := range y.bad {
			want = append(want, api.Copy{At: s.At[i], Healed: y.healed[j]})
		}
		for i, err := range y.fetch {
			if err == api.OK {
				k.fetches(t, i, !slices.Contains(y.bad, i))
			} else {
				k.fails(t, i, err)
			}
		}
		k.copies(t, want)
	}
}

func TestWaiting(t *testing.T) { // 11.2, 11.3: what waits counts, not what is sure
	g := api.Geom{K: 2, M: 1, Clusters: 10}
	k := laid(t, g, 4)
	k.spoil(t, 0, 1, 2)
	k.surveys(t, 0, 1, 2)
	is(t, "Write", k.d.Write(k.s.At[1], k.pieces[1]), api.OK)
	k.surveys(t, 0, 2)
	k.fetches(t, 1, true)
	k.fails(t, 0, api.ErrDamaged)
	is(t, "Write", k.d.Write(k.s.At[2], k.pieces[2]), api.OK)
	k.fetches(t, 0, false)
	k.heals(t, true, 0)
	k.surveys(t)
	k.d.Crash()
	k.surveys(t, 0, 1, 2)
}

func TestSame(t *testing.T) { // 11.2: a member that is garbled back is not bad
	k := laid(t, api.Geom{Shift: 1, K: 3, M: 2, Clusters: 12}, 4)
	for i, at := range k.s.At {
		is(t, "Garble", k.d.Garble(at*2+1, 508, 0x80000000), api.OK)
		k.surveys(t, i)
		is(t, "Garble", k.d.Garble(at*2+1, 508, 0x80000000), api.OK)
		k.surveys(t)
	}
}

func TestDown(t *testing.T) { // 11.2, 11.3: of a device that is down ErrDown at once
	for _, g := range right() {
		k := laid(t, g, 1)
		k.spoil(t, 0)
		k.d.Fuse(0)
		is(t, "Flush", k.d.Flush(), api.ErrDown)
		if l, err := stripe.Survey(k.d, g, k.s); l != nil || err != api.ErrDown {
			t.Errorf("Survey = %v, %d", l, err)
		}
		k.fails(t, 0, api.ErrDown)
		k.fails(t, g.K-1, api.ErrDown)
		if l, err := stripe.Heal(k.d, g, k.s); l != nil || err != api.ErrDown {
			t.Errorf("Heal = %v, %d", l, err)
		}
		is(t, "Write", stripe.Write(k.d, g, k.s, k.pieces), api.ErrDown)
	}
}

func TestHealDown(t *testing.T) { // 11.3: ErrDown of a write at once, and what was healed ahead of it waits
	g := api.Geom{Shift: 1, K: 3, M: 2, Clusters: 12}
	for fuse := range 6 {
		k := laid(t, g, 1)
		k.spoil(t, 1, 3)
		k.d.Fuse(fuse)
		l, err := stripe.Heal(k.d, g, k.s)
		if fuse < 4 && (l != nil || err != api.ErrDown) || fuse >= 4 && (len(l) != 2 || err != api.OK) {
			t.Fatalf("Heal with a fuse of %d = %v, %d", fuse, l, err)
		}
		order := []int{k.s.At[1] * 2, k.s.At[1]*2 + 1, k.s.At[3] * 2, k.s.At[3]*2 + 1}
		if want := slices.Sorted(slices.Values(order[:min(fuse, 4)])); !slices.Equal(k.d.Waiting(), want) {
			t.Fatalf("with a fuse of %d the sectors %v wait, not %v", fuse, k.d.Waiting(), want)
		}
	}
	k := laid(t, g, 1)
	k.spoil(t, 0, 1, 2) // nothing comes back, nothing is written
	k.d.Fuse(0)
	k.heals(t, false, 0, 1, 2)
	if k.d.Down() {
		t.Error("Heal wrote something")
	}
	k = laid(t, g, 1) // nothing is bad, nothing is written
	k.d.Fuse(0)
	k.heals(t, false)
}

func TestSmallDevice(t *testing.T) { // 11.2, 11.3: members that the device has no room for are bad, come back, and can't be written
	g := api.Geom{Shift: 1, K: 3, M: 2, Clusters: 12}
	s, pieces, err := stripe.Make(g, 1, []int{11, 3, 10, 4, 5}, noise(1, 1024), noise(2, 1024), noise(3, 1024))
	is(t, "Make", err, api.OK)
	for _, y := range []struct {
		sectors int
		bad     []int
	}{{24, nil}, {23, []int{0}}, {22, []int{0}}, {21, []int{0, 2}}, {20, []int{0, 2}}} {
		whole, err := dev.New(24)
		is(t, "New", err, api.OK)
		is(t, "Write", stripe.Write(whole, g, s, pieces), api.OK)
		is(t, "Flush", whole.Flush(), api.OK)
		d, err := dev.Load(whole.Bytes()[:y.sectors*api.Sector])
		is(t, "Load", err, api.OK)
		k := kept{g: g, d: d, s: s, pieces: pieces}
		k.surveys(t, y.bad...)
		for i := range g.K {
			k.fetches(t, i, !slices.Contains(y.bad, i))
		}
		k.heals(t, false, y.bad...)
	}
}

func TestSmallDeviceHeals(t *testing.T) { // 11.3: where one can't be written, the others are
	g := api.Geom{K: 2, M: 2, Clusters: 12}
	s, pieces, err := stripe.Make(g, 1, []int{11, 3, 9, 4}, noise(1, 512), noise(2, 512))
	is(t, "Make", err, api.OK)
	d, err := dev.New(11)
	is(t, "New", err, api.OK)
	is(t, "Write", d.Write(3, pieces[1]), api.OK)
	is(t, "Write", d.Write(4, pieces[3]), api.OK)
	k := kept{g: g, d: d, s: s, pieces: pieces}
	k.surveys(t, 0, 2)
	k.copies(t, []api.Copy{{At: 11}, {At: 9, Healed: true}})
	k.surveys(t, 0)
	k.copies(t, []api.Copy{{At: 11}})
	k.fetches(t, 0, false)
}

func TestOthersStay(t *testing.T) { // 11.3: nothing but what is bad is written
	g := api.Geom{Shift: 1, K: 3, M: 2, Clusters: 12}
	k := laid(t, g, 1)
	want := k.d.Bytes()
	k.spoil(t, 2, 4)
	k.heals(t, true, 2, 4)
	is(t, "Flush", k.d.Flush(), api.OK)
	if k.d.Bytes() != want || len(k.d.Bad()) != 0 {
		t.Error("behind a heal the device has other bytes")
	}
}

func TestPlay(t *testing.T) { // 11.5: damage and heals by turns
	g := api.Geom{K: 5, M: 3, Clusters: 30}
	k := laid(t, g, 77)
	seed := uint32(5)
	for range 300 {
		bits := 0
		for range 3 {
			seed = seed*1664525 + 1013904223
			bits |= 1 << (seed >> 29)
		}
		bad := places(bits, 8)
		k.spoil(t, bad...)
		k.surveys(t, bad...)
		for i := range g.K {
			k.fetches(t, i, !slices.Contains(bad, i))
		}
		k.heals(t, true, bad...)
		is(t, "Flush", k.d.Flush(), api.OK)
		k.surveys(t)
	}
}

func TestNewMemory(t *testing.T) { // 11.4: and what is handed in stays as it was
	g := api.Geom{K: 2, M: 1, Clusters: 10}
	at := []int{5, 2, 9}
	s, pieces, err := stripe.Make(g, 1, at, "a", "b")
	is(t, "Make", err, api.OK)
	at[0] = 8
	if s.At[0] != 5 {
		t.Error("Make shares what was handed in")
	}
	k := written(t, g, s, pieces)
	again, _, err := stripe.Make(g, 1, s.At, "a", "b")
	is(t, "Make", err, api.OK)
	again.At[1], again.Sums[1] = 3, 3
	k.surveys(t)
	k.spoil(t, 2, 0, 1)
	a, err := stripe.Survey(k.d, g, s)
	is(t, "Survey", err, api.OK)
	a[0] = true
	k.surveys(t, 0, 1, 2)
	l, err := stripe.Heal(k.d, g, s)
	is(t, "Heal", err, api.OK)
	l[0].At = 4
	k.heals(t, false, 0, 1, 2)
	if want, _, _ := stripe.Make(g, 1, []int{5, 2, 9}, "a", "b"); !reflect.DeepEqual(s, want) || !slices.Equal(pieces, byHand(g, []string{"a", "b"})) {
		t.Error("what was handed in is changed")
	}
}
