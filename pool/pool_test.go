package pool_test

import (
	"math"
	"slices"
	"strings"
	"testing"

	"caulk/api"
	"caulk/pool"
)

// filled is a pool to which these were added.
func filled(t *testing.T, l ...string) *pool.Pool {
	t.Helper()
	p := pool.New()
	for i, s := range l {
		if id, err := p.Add(s); id != i+1 || err != api.OK {
			t.Fatalf("Add(%d bytes) = %d, %d, not %d", len(s), id, err, i+1)
		}
	}
	return p
}

// has fails, if other data are there than these, by their numbers.
func has(t *testing.T, say string, p *pool.Pool, want map[int]string) {
	t.Helper()
	var ids []int
	n := 0
	for id := range 40 {
		if s, there := want[id]; there {
			ids = append(ids, id)
			n += len(s)
		}
		got, err := p.Get(id)
		if s, there := want[id]; got != s || (err == api.OK) != there || err != api.OK && err != api.ErrNone {
			t.Errorf("%s: Get(%d) = %d bytes, %d", say, id, len(got), err)
		}
	}
	if got := p.Ids(); !slices.Equal(got, ids) {
		t.Errorf("%s: Ids = %v, not %v", say, got, ids)
	}
	if got := p.Bytes(); got != n {
		t.Errorf("%s: Bytes = %d, not %d", say, got, n)
	}
}

func TestNew(t *testing.T) { // 17.1
	p := pool.New()
	if p == nil {
		t.Fatal("New = nil")
	}
	has(t, "of none", p, nil)
	q := pool.New()
	if id, err := p.Add("a"); id != 1 || err != api.OK {
		t.Errorf("Add = %d, %d", id, err)
	}
	has(t, "a new one beside it", q, nil)
}

func TestAddGet(t *testing.T) { // 17.1
	long := strings.Repeat("m", api.MaxPiece)
	p := filled(t, "ab", "", "ab", "\x00\xff", long)
	want := map[int]string{1: "ab", 2: "", 3: "ab", 4: "\x00\xff", 5: long}
	has(t, "of five", p, want)
	for _, n := range []int{api.MaxPiece + 1, 2 * api.MaxPiece, 1 << 20} {
		if id, err := p.Add(strings.Repeat("x", n)); id != 0 || err != api.ErrLong {
			t.Errorf("Add(%d bytes) = %d, %d", n, id, err)
		}
	}
	has(t, "behind what was too long", p, want)
	if id, err := p.Add("next"); id != 6 || err != api.OK { // no number was given to what was too long
		t.Errorf("Add = %d, %d", id, err)
	}
	for _, id := range []int{0, -1, 7, api.MaxFresh, api.MaxFresh + 1, 1 << 32, math.MaxInt, math.MinInt} {
		if s, err := p.Get(id); s != "" || err != api.ErrNone {
			t.Errorf("Get(%d) = %q, %d", id, s, err)
		}
	}
}

func TestKeep(t *testing.T) { // 17.1
	for _, x := range []struct {
		ids  []int
		left []int
	}{
		{nil, nil},
		{[]int{3}, []int{3}},
		{[]int{1, 2, 3, 4, 5}, []int{1, 2, 3, 4, 5}},
		{[]int{5, 1, 4}, []int{1, 4, 5}},
		{[]int{2, 2, 2, 4, 2}, []int{2, 4}},
		{[]int{6, 0, -1, 2, 99, math.MaxInt, math.MinInt}, []int{2}},
		{[]int{0, 6}, nil},
	} {
		l := []string{"one", "", "three", "four", "fifth"}
		p := filled(t, l...)
		was, want := slices.Clone(x.ids), map[int]string{}
		for _, id := range x.left {
			want[id] = l[id-1]
		}
		if got := p.Keep(x.ids...); got != 5-len(x.left) {
			t.Errorf("Keep(%v) = %d, not %d", x.ids, got, 5-len(x.left))
		}
		has(t, "behind a Keep", p, want)
		if got := p.Keep(x.ids...); got != 0 {
			t.Errorf("Keep(%v) once more = %d", x.ids, got)
		}
		has(t, "behind another one", p, want)
		if !slices.Equal(x.ids, was) {
			t.Errorf("of %v what was handed in is changed", was)
		}
	}
	if got := pool.New().Keep(1, 2); got != 0 {
		t.Errorf("Keep of none = %d", got)
	}
}

func TestClone(t *testing.T) { // 17.1
	p := filled(t, "one", "two", "three")
	p.Keep(1, 3)
	q := p.Clone()
	want := map[int]string{1: "one", 3: "three"}
	has(t, "the same", q, want)
	if id, err := p.Add("of p"); id != 4 || err != api.OK {
		t.Errorf("Add = %d, %d", id, err)
	}
	has(t, "behind an Add beside it", q, want)
	for want := 4; want <= 5; want++ { // the numbers go on where they were
		if id, err := q.Add("of q"); id != want || err != api.OK {
			t.Errorf("Add = %d, %d, not %d", id, err, want)
		}
	}
	q.Keep(1, 5)
	has(t, "what was cloned", p, map[int]string{1: "one", 3: "three", 4: "of p"})
	has(t, "the clone", q, map[int]string{1: "one", 5: "of q"})
	p.Keep()
	has(t, "the clone, behind a Keep beside it", q, map[int]string{1: "one", 5: "of q"})
	if id, err := p.Clone().Add("x"); id != 5 || err != api.OK { // of nothing, too
		t.Errorf("Add to a clone of nothing = %d, %d", id, err)
	}
	if q := pool.New().Clone(); q == nil {
		t.Error("a clone of none is nil")
	} else if id, err := q.Add("x"); id != 1 || err != api.OK {
		t.Errorf("Add to a clone of none = %d, %d", id, err)
	}
}

func TestNeverAgain(t *testing.T) { // 17.2
	p := pool.New()
	want := map[int]string{}
	for i := 1; i < 40; i++ {
		s := strings.Repeat("s", i)
		if id, err := p.Add(s); id != i || err != api.OK {
			t.Fatalf("Add = %d, %d, not %d", id, err, i)
		}
		want[i] = s
		switch i % 5 {
		case 1:
			p.Keep(p.Ids()...)
		case 2: // the last one goes
			p.Keep(p.Ids()[:len(p.Ids())-1]...)
			delete(want, i)
		case 4:
			p.Keep()
			want = map[int]string{}
		}
		has(t, "behind the number "+s, p, want)
	}
}

func TestStays(t *testing.T) { // 17.2: whatever becomes of the memory that it was in
	l := []byte("abcdef")
	p := filled(t, string(l[1:3]), string(l))
	copy(l, "ghijkl")
	ids := p.Ids()
	ids[0], ids[1] = 7, 8
	has(t, "behind changes of what was handed over", p, map[int]string{1: "bc", 2: "abcdef"})
}

func TestPlay(t *testing.T) { // 17.1, 17.2: against a plain twin
	seed := uint32(5)
	next := func(n int) int {
		seed = seed*1664525 + 1013904223
		return int(seed>>16) % n
	}
	for range 100 {
		p, twin, last := pool.New(), map[int]string{}, 0
		for last < 35 {
			switch next(4) {
			case 0:
				p = p.Clone()
			case 1:
				var ids []int
				for id := range 40 {
					if next(4) > 0 {
						ids = append(ids, id)
						continue
					}
					delete(twin, id)
				}
				were := len(p.Ids())
				if got := p.Keep(ids...); got != were-len(twin) {
					t.Fatalf("Keep = %d, not %d", got, were-len(twin))
				}
			default:
				s := strings.Repeat(string(rune('a'+last%26)), next(50))
				id, err := p.Add(s)
				last++
				if id != last || err != api.OK {
					t.Fatalf("Add = %d, %d, not %d", id, err, last)
				}
				twin[id] = s
			}
		}
		has(t, "at the end of a play", p, twin)
	}
}

func TestNotMade(t *testing.T) { // 17.1: of a pool that New did not make no call panics
	var none *pool.Pool
	if id, err := none.Add("a"); id != 0 || err != api.ErrFull {
		t.Errorf("Add to nil = %d, %d", id, err)
	}
	if id, err := none.Add(strings.Repeat("a", api.MaxPiece+1)); id != 0 || err != api.ErrLong {
		t.Errorf("Add to nil of what is too long = %d, %d", id, err)
	}
	has(t, "of nil", none, nil)
	if got := none.Keep(1); got != 0 || none.Clone() != nil {
		t.Errorf("Keep of nil = %d", got)
	}
	var blank pool.Pool
	has(t, "a blank one", &blank, nil)
	if got := blank.Clone().Keep(1); got != 0 {
		t.Errorf("Keep of a blank one's clone = %d", got)
	}
	if id, err := blank.Clone().Add("a"); id != 1 || err != api.OK {
		t.Errorf("Add to a blank one's clone = %d, %d", id, err)
	}
	if id, err := blank.Add("a"); id != 1 || err != api.OK {
		t.Errorf("Add to a blank one = %d, %d", id, err)
	}
	has(t, "one that was blank", &blank, map[int]string{1: "a"})
}
