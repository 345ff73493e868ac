package entry_test

import (
	"math"
	"slices"
	"strings"
	"testing"

	"caulk/api"
	"caulk/entry"
)

// disk is the entry of a member of a stripe.
func disk(stripe, member int) api.Entry {
	return api.Entry{Kind: api.EntryDisk, Place: api.Place{Stripe: stripe, Member: member}}
}

// fresh is the entry of fresh data.
func fresh(n int) api.Entry {
	return api.Entry{Kind: api.EntryFresh, Fresh: n}
}

// kept are right entries, each with its bytes.
func kept() []struct {
	e api.Entry
	s string
} {
	return []struct {
		e api.Entry
		s string
	}{
		{api.Entry{}, "\x00\x00\x00\x00\x00\x00\x00\x00"},
		{disk(0, 0), "\x01\x00\x00\x00\x00\x00\x00\x00"},
		{disk(0, 1), "\x01\x00\x00\x00\x01\x00\x00\x00"},
		{disk(1, 0), "\x02\x00\x00\x00\x00\x00\x00\x00"},
		{disk(4, 3), "\x05\x00\x00\x00\x03\x00\x00\x00"},
		{disk(254, 254), "\xff\x00\x00\x00\xfe\x00\x00\x00"},
		{disk(255, 0), "\x00\x01\x00\x00\x00\x00\x00\x00"},
		{disk(0x01020302, 7), "\x03\x03\x02\x01\x07\x00\x00\x00"},
		{disk(1<<24-1, 200), "\x00\x00\x00\x01\xc8\x00\x00\x00"},
		{disk(api.MaxId-2, 128), "\xff\xff\xff\x7f\x80\x00\x00\x00"},
		{disk(api.MaxId-1, 0), "\x00\x00\x00\x80\x00\x00\x00\x00"},
		{disk(api.MaxId-1, api.MaxPieces-1), "\x00\x00\x00\x80\xfe\x00\x00\x00"},
	}
}

// wrong are entries that are not right.
func wrong() []api.Entry {
	l := []api.Entry{
		{Place: api.Place{Stripe: 1}},
		{Place: api.Place{Stripe: -1}},
		{Place: api.Place{Member: 1}},
		{Place: api.Place{Member: -1}},
		{Fresh: 1},
		{Fresh: -1},
		{Kind: api.EntryDisk, Fresh: 1},
		{Kind: api.EntryDisk, Fresh: -1},
		{Kind: api.EntryDisk, Fresh: math.MaxInt},
		{Kind: api.EntryDisk, Place: api.Place{Stripe: 3, Member: 2}, Fresh: 4},
		{Kind: api.EntryFresh, Place: api.Place{Stripe: 1}, Fresh: 1},
		{Kind: api.EntryFresh, Place: api.Place{Member: 1}, Fresh: 1},
		{Kind: api.EntryFresh, Place: api.Place{Stripe: -1, Member: -1}, Fresh: 1},
		{Kind: api.EntryFresh + 1},
		{Kind: api.EntryFresh + 1, Fresh: 1},
		{Kind: api.EntryFresh + 1, Place: api.Place{Stripe: 1}},
		{Kind: 255},
		{Kind: 255, Fresh: 1},
	}
	for _, n := range []int{-1, math.MinInt, api.MaxId, api.MaxId + 1, 1<<32 - 1, 1 << 32, 1 << 33, math.MaxInt} {
		l = append(l, disk(n, 0), disk(n, 5))
	}
	for _, n := range []int{-1, -256, math.MinInt, api.MaxPieces, 256, 257, 1 << 16, 1 << 32, math.MaxInt} {
		l = append(l, disk(0, n), disk(5, n))
	}
	for _, n := range []int{0, -1, math.MinInt, api.MaxFresh + 1, 1 << 32, 1<<32 + 1, math.MaxInt} {
		l = append(l, fresh(n))
	}
	return l
}

func TestCheck(t *testing.T) { // 13.1
	for _, x := range kept() {
		if err := entry.Check(x.e); err != api.OK {
			t.Errorf("Check(%v) = %d", x.e, err)
		}
	}
	for _, n := range []int{1, 2, 255, 1 << 16, api.MaxFresh - 1, api.MaxFresh} {
		if err := entry.Check(fresh(n)); err != api.OK {
			t.Errorf("Check(fresh %d) = %d", n, err)
		}
	}
	for _, e := range wrong() {
		if err := entry.Check(e); err != api.ErrForm {
			t.Errorf("Check(%v) = %d", e, err)
		}
	}
}

func TestBytes(t *testing.T) { // 13.1
	for _, x := range kept() {
		if got, err := entry.Bytes(x.e); got != x.s || err != api.OK {
			t.Errorf("Bytes(%v) = %x, %d, not %x", x.e, got, err, x.s)
		}
	}
	for _, e := range append(wrong(), fresh(1), fresh(2), fresh(api.MaxFresh)) {
		if got, err := entry.Bytes(e); got != "" || err != api.ErrForm {
			t.Errorf("Bytes(%v) = %x, %d", e, got, err)
		}
	}
}

func TestParse(t *testing.T) { // 13.1, 13.4
	for _, x := range kept() {
		if got, err := entry.Parse(x.s); got != x.e || err != api.OK {
			t.Errorf("Parse(%x) = %v, %d, not %v", x.s, got, err, x.e)
		}
		for n := range x.s { // too short by some bytes, or too long
			if got, err := entry.Parse(x.s[:n]); got != (api.Entry{}) || err != api.ErrCode {
				t.Errorf("Parse(%x) = %v, %d", x.s[:n], got, err)
			}
			if got, err := entry.Parse(x.s + x.s[n:]); got != (api.Entry{}) || err != api.ErrCode {
				t.Errorf("Parse(%x) = %v, %d", x.s+x.s[n:], got, err)
			}
		}
	}
	for _, s := range []string{
		"\x00\x00\x00\x00\x01\x00\x00\x00", // a hole that has a member
		"\x00\x00\x00\x00\xfe\x00\x00\x00",
		"\x00\x00\x00\x00\xff\x00\x00\x00",
		"\x01\x00\x00\x00\xff\x00\x00\x00", // no such member
		"\x00\x00\x00\x80\xff\x00\x00\x00",
		"\x01\x00\x00\x80\x00\x00\x00\x00", // no such stripe
		"\x00\x00\x00\x81\x00\x00\x00\x00",
		"\xff\xff\xff\xff\x00\x00\x00\x00",
		"\xff\xff\xff\xff\xff\xff\xff\xff",
		"\x00\x00\x00\x00\x00\x01\x00\x00", // something where nothing is
		"\x00\x00\x00\x00\x00\x00\x01\x00",
		"\x00\x00\x00\x00\x00\x00\x00\x01",
		"\x01\x00\x00\x00\x00\x01\x00\x00",
		"\x01\x00\x00\x00\x00\x00\x01\x00",
		"\x01\x00\x00\x00\x00\x00\x00\x01",
		"\x05\x00\x00\x00\x03\x00\x00\x80",
		"\x05\x00\x00\x00\x03\x80\x00\x00",
	} {
		if got, err := entry.Parse(s); got != (api.Entry{}) || err != api.ErrCode {
			t.Errorf("Parse(%x) = %v, %d", s, got, err)
		}
	}
}

func TestEachByte(t *testing.T) { // 13.1, 13.4: what is read has just these bytes, whatever they are
	for i := range 8 {
		for b := range 256 {
			for _, was := range []string{"\x00\x00\x00\x00\x00\x00\x00\x00", "\x07\x00\x00\x00\x02\x00\x00\x00", "\x00\x00\x00\x80\xfe\x00\x00\x00"} {
				s := was[:i] + string([]byte{byte(b)}) + was[i+1:]
				number := uint64(s[0]) | uint64(s[1])<<8 | uint64(s[2])<<16 | uint64(s[3])<<24
				may := s[5:] == "\x00\x00\x00" && (number == 0 && s[4] == 0 || number >= 1 && number <= api.MaxId && s[4] < api.MaxPieces)
				e, err := entry.Parse(s)
				if !may {
					if e != (api.Entry{}) || err != api.ErrCode {
						t.Fatalf("Parse(%x) = %v, %d", s, e, err)
					}
					continue
				}
				if err != api.OK || entry.Check(e) != api.OK {
					t.Fatalf("Parse(%x) = %v, %d", s, e, err)
				}
				if back, err := entry.Bytes(e); back != s || err != api.OK {
					t.Fatalf("Bytes(%v) = %x, %d, not %x", e, back, err, s)
				}
			}
		}
	}
}

func TestDisk(t *testing.T) { // 13.1: whatever the place is
	for _, stripe := range []int{0, 1, 77, api.MaxId - 1, api.MaxId, -1, math.MinInt, math.MaxInt} {
		for _, member := range []int{0, 1, 254, 255, -1, math.MinInt, math.MaxInt} {
			p := api.Place{Stripe: stripe, Member: member}
			if got := entry.Disk(p); got != disk(stripe, member) {
				t.Errorf("Disk(%v) = %v", p, got)
			}
		}
	}
}

func TestTable(t *testing.T) { // 13.2, 13.4
	var l []api.Entry
	want := ""
	for _, x := range append(kept(), kept()...) {
		if got, err := entry.Table(l); got != want || err != api.OK {
			t.Errorf("Table(%v) = %x, %d, not %x", l, got, err, want)
		}
		if got, err := entry.ParseTable(want); !slices.Equal(got, l) || err != api.OK {
			t.Errorf("ParseTable(%x) = %v, %d, not %v", want, got, err, l)
		}
		l, want = append(l, x.e), want+x.s
	}
	if got, err := entry.Table([]api.Entry{}); got != "" || err != api.OK {
		t.Errorf("Table of none = %x, %d", got, err)
	}
}

func TestTableWrong(t *testing.T) { // 13.2
	for _, e := range append(wrong(), fresh(1), fresh(api.MaxFresh)) {
		for _, l := range [][]api.Entry{{e}, {e, disk(1, 2)}, {disk(1, 2), {}, e}, {{}, e, {}}} {
			was := slices.Clone(l)
			if got, err := entry.Table(l); got != "" || err != api.ErrForm {
				t.Errorf("Table(%v) = %x, %d", l, got, err)
			}
			if !slices.Equal(l, was) {
				t.Errorf("of %v what was handed in is changed", was)
			}
		}
	}
	good := "\x05\x00\x00\x00\x03\x00\x00\x00"
	for _, s := range []string{
		"\x00", "\x00\x00\x00\x00", good[:7], good + "\x00", good + good[:4], good + good + good[:7],
		"\x05\x00\x00\x00\xff\x00\x00\x00",
		good + "\x00\x00\x00\x00\x03\x00\x00\x00",
		"\x05\x00\x00\x00\x03\x00\x00\x01" + good,
		good + "\x01\x00\x00\x80\x03\x00\x00\x00" + good,
		"\x00" + good + good[:7],
	} {
		if got, err := entry.ParseTable(s); got != nil || err != api.ErrCode {
			t.Errorf("ParseTable(%x) = %v, %d", s, got, err)
		}
	}
}

func TestTableLong(t *testing.T) { // 13.2
	for _, e := range []api.Entry{{}, disk(9, 1)} {
		one, _ := entry.Bytes(e)
		for _, n := range []int{api.MaxEntries - 1, api.MaxEntries} {
			l, s := slices.Repeat([]api.Entry{e}, n), strings.Repeat(one, n)
			if got, err := entry.Table(l); got != s || err != api.OK {
				t.Errorf("Table(of %d) = %d bytes, %d", n, len(got), err)
			}
			if got, err := entry.ParseTable(s); !slices.Equal(got, l) || err != api.OK {
				t.Errorf("ParseTable(of %d) = %d entries, %d", n, len(got), err)
			}
		}
		for _, n := range []int{api.MaxEntries + 1, 2 * api.MaxEntries} {
			if got, err := entry.ParseTable(strings.Repeat(one, n)); got != nil || err != api.ErrCode {
				t.Errorf("ParseTable(of %d) = %d entries, %d", n, len(got), err)
			}
		}
		if got, err := entry.ParseTable(strings.Repeat(one, api.MaxEntries) + "\x00"); got != nil || err != api.ErrCode {
			t.Errorf("ParseTable(of a byte more than the most) = %d entries, %d", len(got), err)
		}
	}
	for _, e := range []api.Entry{{}, fresh(1), {Fresh: 1}} { // that they are too many is ahead of that one is not right
		if got, err := entry.Table(slices.Repeat([]api.Entry{e}, api.MaxEntries+1)); got != "" || err != api.ErrLong {
			t.Errorf("Table(of too many %v) = %d bytes, %d", e, len(got), err)
		}
	}
}

func TestNewMemory(t *testing.T) { // 13.3
	s := "\x05\x00\x00\x00\x03\x00\x00\x00\x00\x00\x00\x00\x00\x00\x00\x00"
	a, _ := entry.ParseTable(s)
	a[0] = api.Entry{}
	if b, err := entry.ParseTable(s); !slices.Equal(b, []api.Entry{disk(4, 3), {}}) || err != api.OK {
		t.Errorf("ParseTable shares what it answered: %v, %d", b, err)
	}
	l := []api.Entry{disk(4, 3), {}}
	got, _ := entry.Table(l)
	l[0] = disk(1, 1)
	if got != s {
		t.Errorf("Table shares what was handed in: %x", got)
	}
}
