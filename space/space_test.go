package space_test

import (
	"math"
	"slices"
	"testing"

	"caulk/api"
	"caulk/space"
)

// uses are uses of all kinds: of no clusters, of few, of as many as there may be, and of more.
func uses() [][]bool {
	l := [][]bool{nil, {}, {true}, {false}, {true, true, false, false}, {false, true, false, true, true}}
	for _, n := range []int{4, 9, 64, 100, api.MaxClusters, api.MaxClusters + 5} {
		full, blank, mixed := make([]bool, n), make([]bool, n), make([]bool, n)
		seed := uint32(n)
		for i := range n {
			seed = seed*1664525 + 1013904223
			full[i], mixed[i] = true, seed>>30 == 0
		}
		l = append(l, full, blank, mixed)
	}
	return l
}

// use is a use written as text: x of what is used, a point of what is not.
func use(s string) []bool {
	l := make([]bool, len(s))
	for i := range s {
		l[i] = s[i] == 'x'
	}
	return l
}

// text is the text of a use.
func text(l []bool) string {
	s := make([]byte, len(l))
	for i, is := range l {
		s[i] = '.'
		if is {
			s[i] = 'x'
		}
	}
	return string(s)
}

// indices is where l has what is asked for.
func indices(l []bool, what bool) []int {
	var at []int
	for i := range l {
		if l[i] == what {
			at = append(at, i)
		}
	}
	return at
}

func TestNew(t *testing.T) { // 12.1
	for _, n := range []int{api.MinClusters, api.MinClusters + 1, 100, api.MaxClusters - 1, api.MaxClusters} {
		got, err := space.New(n)
		want := make([]bool, n)
		want[0], want[1] = true, true
		if !slices.Equal(got, want) || err != api.OK {
			t.Errorf("New(%d) = %d clusters, %d", n, len(got), err)
		}
		if free, used := space.Free(got), space.Used(got); free != n-2 || !slices.Equal(used, []int{0, 1}) {
			t.Errorf("of New(%d) %d are free, %v used", n, free, used)
		}
	}
	for _, n := range []int{api.MinClusters - 1, 2, 1, 0, -1, -4, math.MinInt, api.MaxClusters + 1, 2 * api.MaxClusters, 1 << 32, math.MaxInt} {
		if got, err := space.New(n); got != nil || err != api.ErrRange {
			t.Errorf("New(%d) = %d clusters, %d", n, len(got), err)
		}
	}
}

func TestFreeUsed(t *testing.T) { // 12.1
	for _, l := range uses() {
		was := slices.Clone(l)
		if got, want := space.Free(l), len(indices(l, false)); got != want {
			t.Errorf("Free(of %d) = %d, not %d", len(l), got, want)
		}
		if got, want := space.Used(l), indices(l, true); !slices.Equal(got, want) {
			t.Errorf("Used(of %d) = %v, not %v", len(l), got, want)
		}
		if !slices.Equal(l, was) {
			t.Error("what was handed in is changed")
		}
	}
	if got := space.Free(use("xx.x..")); got != 3 {
		t.Errorf("Free = %d", got)
	}
	if got := space.Used(use(".xx.x")); !slices.Equal(got, []int{1, 2, 4}) {
		t.Errorf("Used = %v", got)
	}
}

func TestMarkGive(t *testing.T) { // 12.2
	for _, x := range []struct {
		use  string
		at   []int
		mark string
		mErr api.Errno
		give string
		gErr api.Errno
	}{
		{"xx..", nil, "xx..", api.OK, "xx..", api.OK},
		{"", nil, "", api.OK, "", api.OK},
		{"xx..", []int{2}, "xxx.", api.OK, "xx..", api.ErrNone},
		{"xx..", []int{3, 2}, "xxxx", api.OK, "xx..", api.ErrNone},
		{"xx..", []int{0}, "xx..", api.ErrTwice, ".x..", api.OK},
		{"xx..", []int{1, 0}, "xx..", api.ErrTwice, "....", api.OK},
		{"xxx.xx", []int{5, 4, 2}, "xxx.xx", api.ErrTwice, "xx....", api.OK},
		{"xx....", []int{2, 3, 4, 5}, "xxxxxx", api.OK, "xx....", api.ErrNone},
		{"xxx...", []int{3, 2}, "xxx...", api.ErrTwice, "xxx...", api.ErrNone},
		{"xxx...", []int{2, 3}, "xxx...", api.ErrTwice, "xxx...", api.ErrNone},
		{"xx....", []int{4, 5, 4}, "xx....", api.ErrTwice, "xx....", api.ErrNone}, // the second time it is used
		{"xxxxxx", []int{4, 5, 4}, "xxxxxx", api.ErrTwice, "xxxxxx", api.ErrNone}, // the second time it is not
		{"xx..", []int{3, 3}, "xx..", api.ErrTwice, "xx..", api.ErrNone},
		{"xxxx", []int{3, 3}, "xxxx", api.ErrTwice, "xxxx", api.ErrNone},
		{"xx..", []int{4}, "xx..", api.ErrRange, "xx..", api.ErrRange},
		{"xx..", []int{-1}, "xx..", api.ErrRange, "xx..", api.ErrRange},
		{"", []int{0}, "", api.ErrRange, "", api.ErrRange},
		{"xx..", []int{math.MaxInt}, "xx..", api.ErrRange, "xx..", api.ErrRange},
		{"xx..", []int{math.MinInt}, "xx..", api.ErrRange, "xx..", api.ErrRange},
		{"xx..", []int{1 << 32}, "xx..", api.ErrRange, "xx..", api.ErrRange},
		{"xx..", []int{2, 4}, "xx..", api.ErrRange, "xx..", api.ErrNone},
		{"xx..", []int{4, 2}, "xx..", api.ErrRange, "xx..", api.ErrRange},
		{"xx..", []int{4, 0}, "xx..", api.ErrRange, "xx..", api.ErrRange},
		{"xx..", []int{0, 4}, "xx..", api.ErrTwice, "xx..", api.ErrRange},
		{"xx..", []int{2, 2, 4}, "xx..", api.ErrTwice, "xx..", api.ErrNone},
		{"xx..", []int{1, 1, -1}, "xx..", api.ErrTwice, "xx..", api.ErrNone},
	} {
		l, at := use(x.use), slices.Clone(x.at)
		if got, err := space.Mark(l, at...); text(got) != x.mark || err != x.mErr {
			t.Errorf("Mark(%s, %v) = %s, %d, not %s, %d", x.use, x.at, text(got), err, x.mark, x.mErr)
		}
		if got, err := space.Give(l, at...); text(got) != x.give || err != x.gErr {
			t.Errorf("Give(%s, %v) = %s, %d, not %s, %d", x.use, x.at, text(got), err, x.give, x.gErr)
		}
		if text(l) != x.use || !slices.Equal(at, x.at) {
			t.Errorf("of %s and %v what was handed in is changed", x.use, x.at)
		}
	}
}

func TestTake(t *testing.T) { // 12.2
	for _, x := range []struct {
		use  string
		n    int
		want string
		at   []int
		err  api.Errno
	}{
		{"xx..", 0, "xx..", nil, api.OK},
		{"", 0, "", nil, api.OK},
		{"xxxx", 0, "xxxx", nil, api.OK},
		{"xx..", 1, "xxx.", []int{2}, api.OK},
		{"xx..", 2, "xxxx", []int{2, 3}, api.OK},
		{"xx..", 3, "xx..", nil, api.ErrSpace},
		{"....", 3, "xxx.", []int{0, 1, 2}, api.OK},
		{"xx.xx.x.", 2, "xxxxxxx.", []int{2, 5}, api.OK},
		{"xx.xx.x.", 3, "xxxxxxxx", []int{2, 5, 7}, api.OK},
		{"xx.xx.x.", 4, "xx.xx.x.", nil, api.ErrSpace},
		{"xxxx", 1, "xxxx", nil, api.ErrSpace},
		{"", 1, "", nil, api.ErrSpace},
		{"xx..", math.MaxInt, "xx..", nil, api.ErrSpace},
		{"xx..", 1 << 32, "xx..", nil, api.ErrSpace},
		{"xx..", -1, "xx..", nil, api.ErrRange},
		{"xxxx", -1, "xxxx", nil, api.ErrRange},
		{"", -1, "", nil, api.ErrRange},
		{"xx..", math.MinInt, "xx..", nil, api.ErrRange},
	} {
		l := use(x.use)
		got, at, err := space.Take(l, x.n)
		if text(got) != x.want || !slices.Equal(at, x.at) || err != x.err {
			t.Errorf("Take(%s, %d) = %s, %v, %d, not %s, %v, %d", x.use, x.n, text(got), at, err, x.want, x.at, x.err)
		}
		if text(l) != x.use {
			t.Errorf("of %s what was handed in is changed", x.use)
		}
	}
}

func TestLowest(t *testing.T) { // 12.4
	for _, l := range uses() {
		free := indices(l, false)
		for _, n := range []int{0, 1, 2, len(free) / 2, len(free) - 1, len(free)} {
			if n < 0 || n > len(free) {
				continue
			}
			got, at, err := space.Take(l, n)
			if !slices.Equal(at, free[:n]) || err != api.OK {
				t.Fatalf("Take(of %d, %d) = %v, %d", len(l), n, at, err)
			}
			for i, is := range got {
				if is != (l[i] || slices.Contains(at, i)) {
					t.Fatalf("Take(of %d, %d) changed the cluster %d", len(l), n, i)
				}
			}
			if n > 0 && slices.Contains(got[:at[n-1]], false) {
				t.Fatalf("Take(of %d, %d) left a lower one free", len(l), n)
			}
			if marked, err := space.Mark(l, at...); !slices.Equal(marked, got) || err != api.OK {
				t.Fatalf("what Take(of %d, %d) took is not marked likewise", len(l), n)
			}
			if back, err := space.Give(got, at...); !slices.Equal(back, l) || err != api.OK {
				t.Fatalf("what Take(of %d, %d) took is not given back", len(l), n)
			}
			if space.Free(got) != len(free)-n {
				t.Fatalf("Take(of %d, %d) leaves %d", len(l), n, space.Free(got))
			}
		}
		if got, at, err := space.Take(l, len(free)+1); !slices.Equal(got, l) || at != nil || err != api.ErrSpace {
			t.Fatalf("Take(of %d, one too many) = %v, %d", len(l), at, err)
		}
	}
}

func TestPlay(t *testing.T) { // 12.2, 12.4: what is taken and given back by turns, against a plain twin
	l, err := space.New(50)
	if err != api.OK {
		t.Fatal(err)
	}
	twin := map[int]int{0: 1, 1: 1}
	seed := uint32(1)
	for step := range 2000 {
		seed = seed*1664525 + 1013904223
		n := int(seed>>16) % 7
		if used := space.Used(l); seed>>31 == 0 && len(used) > n {
			from := int(seed>>8) % (len(used) - n)
			back := used[from : from+n]
			slices.Reverse(back)
			for _, c := range back {
				delete(twin, c)
			}
			l, err = space.Give(l, back...)
		} else if space.Free(l) >= n {
			var at []int
			l, at, err = space.Take(l, n)
			for c := 0; n > 0; c++ {
				if twin[c] == 0 {
					twin[c] = 1
					n--
					if at[0] != c {
						t.Fatalf("in step %d %d was taken, not %d", step, at[0], c)
					}
					at = at[1:]
				}
			}
		}
		if err != api.OK {
			t.Fatalf("step %d = %d", step, err)
		}
		for c, is := range l {
			if is != (twin[c] == 1) {
				t.Fatalf("behind step %d the cluster %d is used: %v", step, c, is)
			}
		}
	}
}

func TestNewMemory(t *testing.T) { // 12.3: beside an error, too
	l := use("xx.x..")
	spoil := func(say string, got []bool) {
		t.Helper()
		for i := range got {
			got[i] = !got[i]
		}
		if text(l) != "xx.x.." {
			t.Fatalf("%s shares what was handed in", say)
		}
	}
	for _, at := range [][]int{nil, {2}, {3}, {9}, {2, 2}, {3, 3}} {
		got, _ := space.Mark(l, at...)
		spoil("Mark", got)
		got, _ = space.Give(l, at...)
		spoil("Give", got)
	}
	for _, n := range []int{-1, 0, 1, 3, 4} {
		got, _, _ := space.Take(l, n)
		spoil("Take", got)
	}
	a, _ := space.New(4)
	a[2] = true
	if b, _ := space.New(4); text(b) != "xx.." {
		t.Error("New shares what it answered")
	}
	u := space.Used(l)
	u[0] = 5
	if text(l) != "xx.x.." || space.Used(l)[0] != 0 {
		t.Error("Used shares what it answered")
	}
}
