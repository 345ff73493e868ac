package span_test

import (
	"math"
	"slices"
	"strings"
	"testing"

	"caulk/api"
	"caulk/span"
)

// wrongSizes are of no block.
func wrongSizes() []int {
	return []int{0, -1, -512, math.MinInt, api.MaxPiece + 1, 2 * api.MaxPiece, 1 << 32, 1<<32 + 512, math.MaxInt}
}

// wrongBytes are neither an offset nor a length.
func wrongBytes() []int64 {
	return []int64{-1, -512, math.MinInt64, api.MaxBytes + 1, 2 * api.MaxBytes, math.MaxInt64}
}

// draw is a row of numbers that look like chance, and are always the same.
func draw(seed uint64) func(n int) int {
	return func(n int) int {
		seed = seed*6364136223846793005 + 1442695040888963407
		return int(seed>>33) % n
	}
}

// byBytes is the spans of n bytes from off on, byte by byte.
func byBytes(size int, off, n int64) []api.Span {
	var l []api.Span
	for at := off; at < off+n; at++ {
		b, i := int(at/int64(size)), int(at%int64(size))
		if k := len(l); k > 0 && l[k-1].Block == b {
			l[k-1].To = i + 1
			continue
		}
		l = append(l, api.Span{Block: b, From: i, To: i + 1})
	}
	return l
}

// wholes is the blocks of which all bytes are among n from off on.
func wholes(size int, off, n int64) api.Range {
	var l []int
	for _, s := range byBytes(size, off, n) {
		if s.From == 0 && s.To == size {
			l = append(l, s.Block)
		}
	}
	if len(l) == 0 {
		return api.Range{}
	}
	return api.Range{From: l[0], To: l[len(l)-1] + 1}
}

func TestCut(t *testing.T) { // 19.1
	for _, x := range []struct {
		size   int
		off, n int64
		want   []api.Span
	}{
		{512, 0, 0, nil},
		{512, 700, 0, nil},
		{512, api.MaxBytes, 0, nil},
		{512, 0, 1, []api.Span{{Block: 0, From: 0, To: 1}}},
		{512, 0, 512, []api.Span{{Block: 0, From: 0, To: 512}}},
		{512, 511, 1, []api.Span{{Block: 0, From: 511, To: 512}}},
		{512, 512, 1, []api.Span{{Block: 1, From: 0, To: 1}}},
		{512, 0, 513, []api.Span{{Block: 0, From: 0, To: 512}, {Block: 1, From: 0, To: 1}}},
		{512, 511, 2, []api.Span{{Block: 0, From: 511, To: 512}, {Block: 1, From: 0, To: 1}}},
		{512, 700, 1000, []api.Span{{Block: 1, From: 188, To: 512}, {Block: 2, From: 0, To: 512}, {Block: 3, From: 0, To: 164}}},
		{100, 250, 100, []api.Span{{Block: 2, From: 50, To: 100}, {Block: 3, From: 0, To: 50}}},
		{1, 5, 3, []api.Span{{Block: 5, From: 0, To: 1}, {Block: 6, From: 0, To: 1}, {Block: 7, From: 0, To: 1}}},
		{api.MaxPiece, 65535, 2, []api.Span{{Block: 0, From: 65535, To: 65536}, {Block: 1, From: 0, To: 1}}},
		{1, api.MaxBytes, 1, []api.Span{{Block: api.MaxBytes, From: 0, To: 1}}},
		{512, api.MaxBytes, 600, []api.Span{{Block: 1 << 31, From: 0, To: 512}, {Block: 1<<31 + 1, From: 0, To: 88}}},
		{1000, api.MaxBytes, 300, []api.Span{{Block: 1099511627, From: 776, To: 1000}, {Block: 1099511628, From: 0, To: 76}}},
	} {
		if got, err := span.Cut(x.size, x.off, x.n); !slices.Equal(got, x.want) || err != api.OK {
			t.Errorf("Cut(%d, %d, %d) = %v, %d", x.size, x.off, x.n, got, err)
		}
	}
}

func TestCutAll(t *testing.T) { // 19.1, 19.5: all small ones
	for size := 1; size <= 9; size++ {
		for off := range int64(30) {
			for n := range int64(30) {
				if got, err := span.Cut(size, off, n); !slices.Equal(got, byBytes(size, off, n)) || err != api.OK {
					t.Fatalf("Cut(%d, %d, %d) = %v, %d", size, off, n, got, err)
				}
				if got, err := span.Whole(size, off, n); got != wholes(size, off, n) || err != api.OK {
					t.Fatalf("Whole(%d, %d, %d) = %v, %d", size, off, n, got, err)
				}
			}
		}
	}
}

func TestCutLong(t *testing.T) { // 19.1: as much as is read at once
	for _, size := range []int{1, 511, 512, 4096, 65535, api.MaxPiece} {
		for _, off := range []int64{0, 1, 65535, 1 << 30, api.MaxBytes - 1, api.MaxBytes} {
			got, err := span.Cut(size, off, api.MaxRead)
			if !slices.Equal(got, byBytes(size, off, api.MaxRead)) || err != api.OK {
				t.Errorf("Cut(%d, %d, MaxRead) = %d spans, %d", size, off, len(got), err)
			}
			for _, n := range []int64{api.MaxRead + 1, 2 * api.MaxRead, 1 << 32, api.MaxBytes - 1, api.MaxBytes} {
				if got, err := span.Cut(size, off, n); got != nil || err != api.ErrLong {
					t.Errorf("Cut(%d, %d, %d) = %d spans, %d", size, off, n, len(got), err)
				}
			}
		}
	}
}

func TestWhole(t *testing.T) { // 19.1
	for _, x := range []struct {
		size   int
		off, n int64
		want   api.Range
	}{
		{512, 0, 0, api.Range{}},
		{512, 512, 0, api.Range{}},
		{512, 700, 0, api.Range{}},
		{512, 0, 511, api.Range{}},
		{512, 0, 512, api.Range{From: 0, To: 1}},
		{512, 1, 512, api.Range{}},
		{512, 1, 1022, api.Range{}},
		{512, 1, 1023, api.Range{From: 1, To: 2}},
		{512, 512, 1023, api.Range{From: 1, To: 2}},
		{512, 512, 1024, api.Range{From: 1, To: 3}},
		{512, 511, 1025, api.Range{From: 1, To: 3}},
		{1, 7, 5, api.Range{From: 7, To: 12}},
		{512, 5, api.MaxRead + 1, api.Range{From: 1, To: 2048}}, // more than are read at once may be
		{512, 0, api.MaxBytes, api.Range{From: 0, To: 1 << 31}},
		{512, 1, api.MaxBytes, api.Range{From: 1, To: 1 << 31}},
		{512, api.MaxBytes, api.MaxBytes, api.Range{From: 1 << 31, To: 1 << 32}},
		{1, api.MaxBytes, api.MaxBytes, api.Range{From: api.MaxBytes, To: 2 * api.MaxBytes}},
		{api.MaxPiece, api.MaxBytes - 1, 65537, api.Range{From: 1 << 24, To: 1<<24 + 1}},
		{api.MaxPiece, api.MaxBytes - 1, 65536, api.Range{}},
		{1000, 999, 1001, api.Range{From: 1, To: 2}},
	} {
		if got, err := span.Whole(x.size, x.off, x.n); got != x.want || err != api.OK {
			t.Errorf("Whole(%d, %d, %d) = %v, %d", x.size, x.off, x.n, got, err)
		}
	}
}

func TestWrongBytes(t *testing.T) { // 19.1
	fails := func(size int, off, n int64) {
		t.Helper()
		if got, err := span.Cut(size, off, n); got != nil || err != api.ErrRange {
			t.Errorf("Cut(%d, %d, %d) = %v, %d", size, off, n, got, err)
		}
		if got, err := span.Whole(size, off, n); got != (api.Range{}) || err != api.ErrRange {
			t.Errorf("Whole(%d, %d, %d) = %v, %d", size, off, n, got, err)
		}
	}
	for _, size := range wrongSizes() {
		fails(size, 0, 0)
		fails(size, 5, 7)
		fails(size, 5, api.MaxBytes) // ahead of ErrLong
		for _, n := range wrongBytes() {
			fails(size, n, n)
		}
	}
	for _, n := range wrongBytes() {
		for _, size := range []int{1, 512, api.MaxPiece} {
			fails(size, n, 0)
			fails(size, n, 5)
			fails(size, n, api.MaxBytes) // ahead of ErrLong
			fails(size, 0, n)
			fails(size, api.MaxBytes, n)
			fails(size, n, n)
		}
	}
}

func TestMerge(t *testing.T) { // 19.2
	for _, x := range []struct {
		blocks []int
		want   []api.Range
	}{
		{nil, nil},
		{[]int{0}, []api.Range{{From: 0, To: 1}}},
		{[]int{7, 7, 7}, []api.Range{{From: 7, To: 8}}},
		{[]int{1, 2, 3}, []api.Range{{From: 1, To: 4}}},
		{[]int{3, 1, 2, 1, 3}, []api.Range{{From: 1, To: 4}}},
		{[]int{1, 3}, []api.Range{{From: 1, To: 2}, {From: 3, To: 4}}},
		{[]int{9, 5, 4, 0, 8, 2, 5}, []api.Range{{From: 0, To: 1}, {From: 2, To: 3}, {From: 4, To: 6}, {From: 8, To: 10}}},
		{[]int{api.MaxBlocks - 1, 0}, []api.Range{{From: 0, To: 1}, {From: api.MaxBlocks - 1, To: api.MaxBlocks}}},
		{[]int{api.MaxBlocks, api.MaxBlocks + 1}, []api.Range{{From: api.MaxBlocks, To: api.MaxBlocks + 2}}}, // any blocks
		{[]int{0, -1, 1, -3}, []api.Range{{From: -3, To: -2}, {From: -1, To: 2}}},
		{[]int{math.MinInt, math.MaxInt - 1}, []api.Range{{From: math.MinInt, To: math.MinInt + 1}, {From: math.MaxInt - 1, To: math.MaxInt}}},
	} {
		was := slices.Clone(x.blocks)
		if got := span.Merge(x.blocks...); !slices.Equal(got, x.want) {
			t.Errorf("Merge(%v) = %v", x.blocks, got)
		}
		if !slices.Equal(was, x.blocks) {
			t.Errorf("Merge changed %v to %v", was, x.blocks)
		}
	}
	if got := span.Merge(); len(got) != 0 {
		t.Errorf("Merge of nothing = %v", got)
	}
	span.Merge(math.MaxInt, math.MinInt, math.MaxInt, math.MaxInt-1) // ends, whatever it is given
}

func TestMergeMany(t *testing.T) { // 19.2: what was merged has just these blocks
	next := draw(3)
	for _, n := range []int{1, 2, 5, 40, 300, 3000} {
		for range 40 {
			blocks := make([]int, n)
			for i := range blocks {
				blocks[i] = next(2 * n)
			}
			got := span.Merge(blocks...)
			for i, r := range got {
				if r.From >= r.To || i > 0 && got[i-1].To >= r.From {
					t.Fatalf("Merge = %v", got)
				}
			}
			want := slices.Compact(slices.Sorted(slices.Values(blocks)))
			if back, err := span.Blocks(got); !slices.Equal(back, want) || err != api.OK {
				t.Fatalf("Blocks(%v) = %v, %d, not %v", got, back, err, want)
			}
		}
	}
}

func TestBlocks(t *testing.T) { // 19.2
	for _, x := range []struct {
		l    []api.Range
		want []int
	}{
		{nil, nil},
		{[]api.Range{{}}, nil},
		{[]api.Range{{From: 5, To: 5}, {From: api.MaxBlocks, To: api.MaxBlocks}}, nil},
		{[]api.Range{{From: 3, To: 6}}, []int{3, 4, 5}},
		{[]api.Range{{From: 3, To: 6}, {From: 0, To: 2}}, []int{3, 4, 5, 0, 1}}, // as they stand
		{[]api.Range{{From: 1, To: 3}, {From: 2, To: 4}, {From: 2, To: 2}, {From: 2, To: 3}}, []int{1, 2, 2, 3, 2}},
		{[]api.Range{{From: api.MaxBlocks - 1, To: api.MaxBlocks}}, []int{api.MaxBlocks - 1}},
	} {
		if got, err := span.Blocks(x.l); !slices.Equal(got, x.want) || err != api.OK {
			t.Errorf("Blocks(%v) = %v, %d", x.l, got, err)
		}
	}
	for _, l := range [][]api.Range{ // as many as there may be
		{{From: 0, To: api.MaxBlocks}},
		{{From: 0, To: api.MaxBlocks}, {From: 7, To: 7}},
		{{From: 9, To: api.MaxBlocks}, {From: 0, To: 9}},
		slices.Repeat([]api.Range{{From: 0, To: 1024}}, 64),
		slices.Repeat([]api.Range{{From: 77, To: 78}}, api.MaxBlocks),
	} {
		got, err := span.Blocks(l)
		if len(got) != api.MaxBlocks || err != api.OK {
			t.Errorf("Blocks(%v..) = %d blocks, %d", l[0], len(got), err)
		}
		i := 0
		for _, r := range l {
			for b := r.From; b < r.To && i < len(got); b++ {
				if got[i] != b {
					t.Fatalf("Blocks(%v..) has %d at %d, not %d", l[0], got[i], i, b)
				}
				i++
			}
		}
	}
}

func TestBlocksWrong(t *testing.T) { // 19.2
	for _, l := range [][]api.Range{
		{{From: 1, To: 0}},
		{{From: 6, To: 5}},
		{{From: -1, To: 0}},
		{{From: -1, To: -1}},
		{{From: -2, To: -3}},
		{{From: 0, To: -1}},
		{{From: 0, To: api.MaxBlocks + 1}},
		{{From: api.MaxBlocks, To: api.MaxBlocks + 1}},
		{{From: api.MaxBlocks + 1, To: api.MaxBlocks + 1}},
		{{From: math.MinInt, To: math.MaxInt}},
		{{From: math.MaxInt, To: math.MinInt}},
		{{From: math.MaxInt, To: math.MaxInt}},
		{{From: 1, To: math.MaxInt}},
		{{From: math.MinInt, To: 1}},
		{{From: 1, To: 3}, {From: 5, To: 4}},
		{{From: 1, To: 3}, {From: -1, To: 4}, {From: 7, To: 8}},
		{{From: 0, To: api.MaxBlocks}, {From: 5, To: 6}}, // more than there may be, together
		{{From: 0, To: 40000}, {From: 20000, To: 60000}},
		slices.Repeat([]api.Range{{From: 77, To: 78}}, api.MaxBlocks+1),
		slices.Repeat([]api.Range{{From: 0, To: api.MaxBlocks}}, 1<<17),
	} {
		if got, err := span.Blocks(l); got != nil || err != api.ErrRange {
			t.Errorf("Blocks(%v..) = %d blocks, %d", l[0], len(got), err)
		}
	}
}

func TestJoin(t *testing.T) { // 19.3
	for _, x := range []struct {
		size  int
		l     []api.Span
		parts []string
		want  string
	}{
		{512, nil, nil, ""},
		{1, []api.Span{{}}, []string{""}, ""},
		{4, []api.Span{{Block: 3, From: 0, To: 4}}, []string{"abcd"}, "abcd"},
		{4, []api.Span{{From: 4, To: 4}, {From: 2, To: 4}, {Block: 1, From: 0, To: 1}}, []string{"", "ab", "c"}, "abc"},
		{4, []api.Span{{Block: 9, From: 1, To: 4}, {Block: 2, From: 0, To: 4}, {Block: 2, From: 0, To: 4}}, []string{"xyz", "1234", "\x00\xff\x00\x80"}, "xyz1234\x00\xff\x00\x80"}, // whatever blocks they are of
		{4, []api.Span{{Block: -5, From: 1, To: 2}, {Block: math.MaxInt, From: 0, To: 1}}, []string{"b", "a"}, "ba"},
		{api.MaxPiece, []api.Span{{From: 0, To: api.MaxPiece}, {From: api.MaxPiece - 1, To: api.MaxPiece}}, []string{strings.Repeat("m", api.MaxPiece), "n"}, strings.Repeat("m", api.MaxPiece) + "n"},
	} {
		if got, err := span.Join(x.size, x.l, x.parts); got != x.want || err != api.OK {
			t.Errorf("Join(%d, %v, ..) = %.50q, %d", x.size, x.l, got, err)
		}
	}
}

func TestJoinWrong(t *testing.T) { // 19.3
	fails := func(size int, l []api.Span, parts []string, want api.Errno) {
		t.Helper()
		if got, err := span.Join(size, l, parts); got != "" || err != want {
			t.Errorf("Join(%d, %v, %q) = %q, %d, not %d", size, l, parts, got, err, want)
		}
	}
	good, text := []api.Span{{From: 2, To: 4}, {Block: 1, From: 0, To: 1}}, []string{"ab", "c"}
	for _, size := range wrongSizes() {
		fails(size, nil, nil, api.ErrRange)
		fails(size, good, text, api.ErrRange)
		fails(size, good, nil, api.ErrRange) // ahead of ErrForm
		fails(size, []api.Span{{From: 0, To: size}}, []string{""}, api.ErrRange)
	}
	fails(4, good, nil, api.ErrForm)
	fails(4, good, text[:1], api.ErrForm)
	fails(4, good, []string{"ab", "c", ""}, api.ErrForm)
	fails(4, nil, []string{""}, api.ErrForm)
	fails(4, []api.Span{{}}, nil, api.ErrForm)
	fails(3, good, text, api.ErrForm) // the first one is not of such a block
	fails(4, good, []string{"a", "bc"}, api.ErrForm)
	fails(4, good, []string{"ab", ""}, api.ErrForm)
	fails(4, good, []string{"ab", "cd"}, api.ErrForm)
	fails(4, good, []string{"", "c"}, api.ErrForm)
	for _, s := range []api.Span{
		{From: 4, To: 5}, {From: 0, To: 5}, {From: 5, To: 5}, {From: -1, To: 0}, {From: -1, To: -1}, {From: -2, To: 2},
		{From: 3, To: 2}, {From: 1, To: 0}, {From: 0, To: -1},
		{From: math.MinInt, To: math.MinInt}, {From: math.MaxInt, To: math.MaxInt}, {From: 0, To: math.MaxInt}, {From: math.MinInt, To: 4},
		{From: math.MinInt, To: math.MaxInt}, {From: math.MaxInt, To: math.MinInt},
	} {
		for n := range 6 {
			part := strings.Repeat("p", n)
			fails(4, []api.Span{s}, []string{part}, api.ErrForm)
			fails(4, append(slices.Clone(good), s), append(slices.Clone(text), part), api.ErrForm)
		}
	}
}

func TestOver(t *testing.T) { // 19.3
	for _, x := range []struct {
		was        string
		s          api.Span
		part, want string
	}{
		{"", api.Span{}, "", ""},
		{"abcdef", api.Span{}, "", "abcdef"},
		{"abcdef", api.Span{From: 6, To: 6}, "", "abcdef"},
		{"abcdef", api.Span{From: 3, To: 3}, "", "abcdef"},
		{"abcdef", api.Span{From: 0, To: 6}, "ABCDEF", "ABCDEF"},
		{"abcdef", api.Span{From: 0, To: 2}, "AB", "ABcdef"},
		{"abcdef", api.Span{From: 5, To: 6}, "F", "abcdeF"},
		{"abcdef", api.Span{Block: 77, From: 2, To: 4}, "\x00\xff", "ab\x00\xffef"}, // whatever block it is of
		{"abcdef", api.Span{Block: -1, From: 2, To: 4}, "cd", "abcdef"},
		{strings.Repeat("w", 70000), api.Span{From: 1, To: 69999}, strings.Repeat("v", 69998), "w" + strings.Repeat("v", 69998) + "w"}, // of any length
	} {
		if got, err := span.Over(x.was, x.s, x.part); got != x.want || err != api.OK {
			t.Errorf("Over(%.20q, %v, %.20q) = %.20q, %d", x.was, x.s, x.part, got, err)
		}
	}
}

func TestOverWrong(t *testing.T) { // 19.3
	for _, x := range []struct {
		was  string
		s    api.Span
		part string
	}{
		{"", api.Span{From: 0, To: 1}, "a"},
		{"", api.Span{From: 1, To: 1}, ""},
		{"", api.Span{From: -1, To: 0}, "a"},
		{"", api.Span{}, "a"},
		{"abcd", api.Span{From: 3, To: 5}, "xy"},
		{"abcd", api.Span{From: 5, To: 5}, ""},
		{"abcd", api.Span{From: -1, To: 1}, "xy"},
		{"abcd", api.Span{From: -1, To: -1}, ""},
		{"abcd", api.Span{From: 2, To: 1}, ""},
		{"abcd", api.Span{From: 2, To: 1}, "x"},
		{"abcd", api.Span{From: 1, To: 3}, "x"},
		{"abcd", api.Span{From: 1, To: 3}, "xyz"},
		{"abcd", api.Span{From: 1, To: 3}, ""},
		{"abcd", api.Span{From: 1, To: 1}, "x"},
		{"abcd", api.Span{From: math.MinInt, To: math.MaxInt}, "xyz"},
		{"abcd", api.Span{From: math.MaxInt, To: math.MinInt}, "x"},
		{"abcd", api.Span{From: math.MinInt, To: 0}, ""},
		{"abcd", api.Span{From: 0, To: math.MaxInt}, ""},
	} {
		if got, err := span.Over(x.was, x.s, x.part); got != "" || err != api.ErrForm {
			t.Errorf("Over(%q, %v, %q) = %q, %d", x.was, x.s, x.part, got, err)
		}
	}
}

func TestCutAndJoined(t *testing.T) { // 19.5: what is cut, and joined, is what it was
	next := draw(5)
	for range 3000 {
		size, blocks := 1+next(20), 1+next(8)
		flat := make([]byte, size*blocks)
		for i := range flat {
			flat[i] = byte(next(256))
		}
		off := next(len(flat) + 1)
		n := next(len(flat) - off + 1)
		spans, err := span.Cut(size, int64(off), int64(n))
		if err != api.OK {
			t.Fatalf("Cut = %d", err)
		}
		var parts []string
		covered := make([]int, len(flat))
		for i, s := range spans {
			if s.From >= s.To || i > 0 && spans[i-1].Block >= s.Block {
				t.Fatalf("Cut = %v", spans)
			}
			parts = append(parts, string(flat[s.Block*size:][s.From:s.To]))
			for at := s.From; at < s.To; at++ {
				covered[s.Block*size+at]++
			}
		}
		for at, times := range covered {
			if within := at >= off && at < off+n; within && times != 1 || !within && times != 0 {
				t.Fatalf("of %d bytes from %d on the byte %d is covered %d times", n, off, at, times)
			}
		}
		if got, err := span.Join(size, spans, parts); got != string(flat[off:off+n]) || err != api.OK {
			t.Fatalf("Join = %q, %d, not %q", got, err, flat[off:off+n])
		}
		laid(t, size, flat, off, spans, strings.Repeat("~", n))
	}
}

// laid ends a test, if text, laid over block by block, comes to something else than laid over at once.
func laid(t *testing.T, size int, flat []byte, off int, spans []api.Span, text string) {
	t.Helper()
	was := string(flat)
	want := was[:off] + text + was[off+len(text):]
	rest := text
	for _, s := range spans {
		block := was[s.Block*size : (s.Block+1)*size]
		is, err := span.Over(block, s, rest[:s.To-s.From])
		if err != api.OK {
			t.Fatalf("Over = %d", err)
		}
		was, rest = was[:s.Block*size]+is+was[(s.Block+1)*size:], rest[s.To-s.From:]
	}
	if was != want || rest != "" {
		t.Fatalf("laid over it is %q, not %q", was, want)
	}
}

func TestWholeIsCut(t *testing.T) { // 19.1, 19.5: the blocks that lie there as a whole are the full spans
	next := draw(8)
	for range 2000 {
		size, off, n := 1+next(api.MaxPiece), int64(next(1<<30))*1024, int64(next(api.MaxRead+1))
		spans, _ := span.Cut(size, off, n)
		var full []int
		for _, s := range spans {
			if s.To-s.From == size {
				full = append(full, s.Block)
			}
		}
		r, err := span.Whole(size, off, n)
		if got := r.To - r.From; got != len(full) || err != api.OK || got > 0 && (r.From != full[0] || r.To-1 != full[got-1]) {
			t.Fatalf("Whole(%d, %d, %d) = %v, %d, not %v", size, off, n, r, err, full)
		}
	}
}

func TestNew(t *testing.T) { // 19.4
	cut := func() []api.Span { l, _ := span.Cut(4, 2, 9); return l }
	clear(cut())
	if want := byBytes(4, 2, 9); !slices.Equal(cut(), want) {
		t.Errorf("Cut = %v", cut())
	}
	blocks := []int{5, 1, 2}
	ranges := span.Merge(blocks...)
	clear(blocks)
	if want := []api.Range{{From: 1, To: 3}, {From: 5, To: 6}}; !slices.Equal(ranges, want) {
		t.Errorf("Merge = %v", ranges)
	}
	all, _ := span.Blocks(ranges)
	clear(ranges)
	if !slices.Equal(all, []int{1, 2, 5}) {
		t.Errorf("Blocks = %v", all)
	}
	clear(all)
	if again := span.Merge(1, 2, 5); len(again) != 2 || again[1].To != 6 {
		t.Errorf("Merge = %v", again)
	}
	spans, parts := []api.Span{{From: 0, To: 1}, {From: 0, To: 1}}, []string{"a", "b"}
	joined, _ := span.Join(1, spans, parts)
	clear(parts)
	clear(spans)
	if joined != "ab" {
		t.Errorf("Join = %q", joined)
	}
}
