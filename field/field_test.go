package field_test

import (
	"math"
	"slices"
	"strings"
	"testing"

	"caulk/api"
	"caulk/field"
)

var (
	widths = []int{1, 2, 4, 8}
	none   = []int{0, -1, 3, 5, 6, 7, 9, 16, 64, 255, -8, 1 << 32, 1<<32 + 1, 1<<61 + 1, math.MaxInt, math.MinInt, math.MinInt + 1}
)

// most is the greatest number of a width.
func most(width int) uint64 {
	return math.MaxUint64 >> (64 - 8*width)
}

// noise is n numbers without a pattern.
func noise(seed uint64, n int) []uint64 {
	l := make([]uint64, n)
	for i := range l {
		seed = seed*6364136223846793005 + 1442695040888963407
		l[i] = seed ^ seed>>29
	}
	return l
}

// byHand is the bytes of n, by what is left when it is divided.
func byHand(width int, n uint64) string {
	var l []byte
	for range width {
		l = append(l, byte(n%256))
		n /= 256
	}
	return string(l)
}

func TestPut(t *testing.T) { // 7.1
	for _, x := range []struct {
		width int
		n     uint64
		want  string
	}{
		{1, 0, "\x00"},
		{1, 255, "\xff"},
		{2, 0, "\x00\x00"},
		{2, 1, "\x01\x00"},
		{2, 0x0102, "\x02\x01"},
		{2, 0xffff, "\xff\xff"},
		{4, 0x01020304, "\x04\x03\x02\x01"},
		{4, 0x80000000, "\x00\x00\x00\x80"},
		{4, 0xffffffff, "\xff\xff\xff\xff"},
		{8, 0, "\x00\x00\x00\x00\x00\x00\x00\x00"},
		{8, 0x0102030405060708, "\x08\x07\x06\x05\x04\x03\x02\x01"},
		{8, math.MaxUint64, "\xff\xff\xff\xff\xff\xff\xff\xff"},
		{8, 1 << 63, "\x00\x00\x00\x00\x00\x00\x00\x80"},
	} {
		if got, err := field.Put(x.width, x.n); got != x.want || err != api.OK {
			t.Errorf("Put(%d, %x) = %x, %d, not %x", x.width, x.n, got, err, x.want)
		}
		if got, err := field.Get(x.width, x.want); got != x.n || err != api.OK {
			t.Errorf("Get(%d, %x) = %x, %d, not %x", x.width, x.want, got, err, x.n)
		}
	}
}

func TestPutWrong(t *testing.T) { // 7.1
	for _, width := range none {
		for _, n := range []uint64{0, 1, 255, math.MaxUint64} {
			if got, err := field.Put(width, n); got != "" || err != api.ErrRange {
				t.Errorf("Put(%d, %x) = %x, %d", width, n, got, err)
			}
		}
	}
	for _, width := range widths[:3] {
		for _, n := range []uint64{most(width) + 1, most(width) + 2, (most(width) + 1) * 2, 1 << 63, math.MaxUint64} {
			if got, err := field.Put(width, n); got != "" || err != api.ErrRange {
				t.Errorf("Put(%d, %x) = %x, %d", width, n, got, err)
			}
		}
	}
}

func TestGetWrong(t *testing.T) { // 7.1: that there is no such width is ahead of that s is too short
	for _, width := range none {
		for _, s := range []string{"", "a", "abcdefghijklmnopqrstuvwxyz"} {
			if got, err := field.Get(width, s); got != 0 || err != api.ErrRange {
				t.Errorf("Get(%d, %q) = %d, %d", width, s, got, err)
			}
		}
	}
	for _, width := range widths {
		for n := range width {
			if got, err := field.Get(width, strings.Repeat("\xff", n)); got != 0 || err != api.ErrShort {
				t.Errorf("Get(%d, of %d bytes) = %d, %d", width, n, got, err)
			}
		}
	}
}

func TestText(t *testing.T) { // 7.1
	for n := range api.MaxName + 1 {
		for _, s := range []string{strings.Repeat("a", n), strings.Repeat("\x00", n), strings.Repeat("\xff", n)} {
			if got, err := field.Text(s); got != string([]byte{byte(n)})+s || err != api.OK {
				t.Errorf("Text(%q) = %q, %d", s, got, err)
			}
		}
	}
	if got, err := field.Text("äöü"); got != "\x06äöü" || err != api.OK { // bytes are counted, not letters
		t.Errorf("Text of six bytes = %q, %d", got, err)
	}
	for _, s := range []string{strings.Repeat("a", api.MaxName+1), strings.Repeat("ä", api.MaxName/2) + "a", strings.Repeat("\x00", 255), strings.Repeat("a", 256), strings.Repeat("a", 1<<16)} {
		if got, err := field.Text(s); got != "" || err != api.ErrLong {
			t.Errorf("Text(of %d bytes) = %q, %d", len(s), got, err)
		}
	}
}

func TestAll(t *testing.T) { // 7.2
	for _, x := range []struct {
		s      string
		widths []int
		want   []uint64
		rest   string
		err    api.Errno
	}{
		{"", nil, nil, "", api.OK},
		{"abc", nil, nil, "abc", api.OK},
		{"abc", []int{}, nil, "abc", api.OK},
		{"a", []int{1}, []uint64{'a'}, "", api.OK},
		{"\x01\x02\x03", []int{1, 2}, []uint64{1, 0x0302}, "", api.OK},
		{"\x01\x02\x03tail", []int{2, 1}, []uint64{0x0201, 3}, "tail", api.OK},
		{"\x01\x02\x03\x04\x05\x06\x07\x08\x09\x0a\x0b\x0c\x0d\x0e\x0f\x10", []int{8, 4, 2, 1}, []uint64{0x0807060504030201, 0x0c0b0a09, 0x0e0d, 0x0f}, "\x10", api.OK},
		{"ab", []int{1, 2}, nil, "", api.ErrShort},
		{"", []int{1}, nil, "", api.ErrShort},
		{"ab", []int{1, 1, 1}, nil, "", api.ErrShort},
		{"abcdefgh", []int{3}, nil, "", api.ErrRange},
		{"abcdefgh", []int{4, 0}, nil, "", api.ErrRange},
		{"abcdefgh", []int{4, -1, 4}, nil, "", api.ErrRange},
		{"a", []int{2, 3}, nil, "", api.ErrShort},
		{"a", []int{3, 2}, nil, "", api.ErrRange},
		{"a", []int{1, math.MaxInt}, nil, "", api.ErrRange},
		{"", []int{0}, nil, "", api.ErrRange},
	} {
		got, rest, err := field.All(x.s, x.widths...)
		if !slices.Equal(got, x.want) || rest != x.rest || err != x.err {
			t.Errorf("All(%q, %v) = %x, %q, %d, not %x, %q, %d", x.s, x.widths, got, rest, err, x.want, x.rest, x.err)
		}
	}
}

func TestJoin(t *testing.T) { // 7.2
	for _, x := range []struct {
		widths []int
		values []uint64
		want   string
		err    api.Errno
	}{
		{nil, nil, "", api.OK},
		{nil, []uint64{}, "", api.OK},
		{[]int{1}, []uint64{7}, "\x07", api.OK},
		{[]int{1, 2, 4}, []uint64{7, 8, 9}, "\x07\x08\x00\x09\x00\x00\x00", api.OK},
		{[]int{2, 8, 1}, []uint64{0x1234, 1, 255}, "\x34\x12\x01\x00\x00\x00\x00\x00\x00\x00\xff", api.OK},
		{[]int{1}, nil, "", api.ErrForm},
		{nil, []uint64{1}, "", api.ErrForm},
		{[]int{1, 1}, []uint64{1}, "", api.ErrForm},
		{[]int{1}, []uint64{1, 1}, "", api.ErrForm},
		{[]int{3}, []uint64{256, 1}, "", api.ErrForm}, // ahead of Put's errors
		{[]int{1, 3}, []uint64{256}, "", api.ErrForm},
		{[]int{1}, []uint64{256}, "", api.ErrRange},
		{[]int{1, 2, 1}, []uint64{255, 65536, 1}, "", api.ErrRange},
		{[]int{1, 1, 3}, []uint64{1, 1, 1}, "", api.ErrRange},
		{[]int{4}, []uint64{1 << 32}, "", api.ErrRange},
		{[]int{0}, []uint64{0}, "", api.ErrRange},
		{[]int{math.MinInt}, []uint64{0}, "", api.ErrRange},
	} {
		if got, err := field.Join(x.widths, x.values); got != x.want || err != x.err {
			t.Errorf("Join(%v, %x) = %x, %d, not %x, %d", x.widths, x.values, got, err, x.want, x.err)
		}
	}
}

func TestPtr(t *testing.T) { // 7.3
	for _, x := range []struct {
		p    api.Ptr
		want string
	}{
		{api.Ptr{}, "\x00\x00\x00\x00\x00\x00\x00\x00\x00\x00\x00\x00"},
		{api.Ptr{A: 1, B: 2, Sum: 3}, "\x01\x00\x00\x00\x02\x00\x00\x00\x03\x00\x00\x00"},
		{api.Ptr{A: 0x01020304, B: 0x05060708, Sum: 0x090a0b0c}, "\x04\x03\x02\x01\x08\x07\x06\x05\x0c\x0b\x0a\x09"},
		{api.Ptr{A: math.MaxUint32, B: 0, Sum: 0}, "\xff\xff\xff\xff\x00\x00\x00\x00\x00\x00\x00\x00"},
		{api.Ptr{A: 0, B: math.MaxUint32, Sum: math.MaxUint32}, "\x00\x00\x00\x00\xff\xff\xff\xff\xff\xff\xff\xff"},
	} {
		if got, err := field.Ptr(x.p); got != x.want || err != api.OK {
			t.Errorf("Ptr(%v) = %x, %d, not %x", x.p, got, err, x.want)
		}
		for _, behind := range []string{"", "\x00", "\xff\xff\xff\xff", x.want} {
			if got, err := field.GetPtr(x.want + behind); got != x.p || err != api.OK {
				t.Errorf("GetPtr(%x and %d bytes) = %v, %d, not %v", x.want, len(behind), got, err, x.p)
			}
		}
		for n := range len(x.want) {
			if got, err := field.GetPtr(x.want[:n]); got != (api.Ptr{}) || err != api.ErrShort {
				t.Errorf("GetPtr(of %d bytes) = %v, %d", n, got, err)
			}
		}
	}
	for _, wrong := range []int{-1, -2, math.MinInt, math.MaxUint32 + 1, math.MaxUint32 + 2, math.MaxInt} {
		for _, p := range []api.Ptr{{A: wrong, B: 1, Sum: 1}, {A: 1, B: wrong, Sum: 1}, {A: wrong, B: wrong, Sum: 1}} {
			if got, err := field.Ptr(p); got != "" || err != api.ErrRange {
				t.Errorf("Ptr(%v) = %x, %d", p, got, err)
			}
		}
	}
}

func TestBack(t *testing.T) { // 7.4: one number
	for _, width := range widths {
		numbers := append(noise(uint64(width), 300), 0, 1, 127, 128, 255, most(width)/2, most(width)/2+1, most(width)-1, most(width))
		for _, n := range numbers {
			n &= most(width)
			s, err := field.Put(width, n)
			if s != byHand(width, n) || err != api.OK {
				t.Fatalf("Put(%d, %x) = %x, %d", width, n, s, err)
			}
			for _, behind := range []string{"", "\x00", "\xff", "tail and more"} {
				if got, err := field.Get(width, s+behind); got != n || err != api.OK {
					t.Fatalf("Get(%d, %x) = %x, %d, not %x", width, s+behind, got, err, n)
				}
			}
		}
	}
}

func TestBackOfSeveral(t *testing.T) { // 7.4: several numbers, and pointers
	for seed, l := range noise(99, 200) {
		values := noise(l, seed%20)
		list := make([]int, len(values))
		for i := range values {
			list[i] = widths[values[i]>>40%4]
			values[i] &= most(list[i])
		}
		wasWidths, wasValues := slices.Clone(list), slices.Clone(values)
		s, err := field.Join(list, values)
		want := ""
		for i, width := range list {
			want += byHand(width, values[i])
		}
		if s != want || err != api.OK {
			t.Fatalf("Join(%v, %x) = %x, %d, not %x", list, values, s, err, want)
		}
		got, rest, err := field.All(s+"tail", list...)
		if !slices.Equal(got, values) || rest != "tail" || err != api.OK {
			t.Fatalf("All(%x, %v) = %x, %q, %d, not %x", s, list, got, rest, err, values)
		}
		again, err := field.Join(list, got)
		if again != s || err != api.OK {
			t.Fatalf("Join(%v, %x) = %x, %d, not %x", list, got, again, err, s)
		}
		if !slices.Equal(list, wasWidths) || !slices.Equal(values, wasValues) {
			t.Fatalf("what was handed in, %v and %x, is now %v and %x", wasWidths, wasValues, list, values)
		}
		p := api.Ptr{A: int(uint32(l)), B: int(uint32(l >> 20)), Sum: uint32(l >> 32)}
		s, err = field.Ptr(p)
		if s != byHand(4, uint64(p.A))+byHand(4, uint64(p.B))+byHand(4, uint64(p.Sum)) || err != api.OK {
			t.Fatalf("Ptr(%v) = %x, %d", p, s, err)
		}
		if back, err := field.GetPtr(s + "tail"); back != p || err != api.OK {
			t.Fatalf("GetPtr(%x) = %v, %d, not %v", s, back, err, p)
		}
	}
}
