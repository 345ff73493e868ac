package rs_test

import (
	"math"
	"slices"
	"strings"
	"testing"

	"caulk/api"
	"caulk/gf"
	"caulk/rs"
)

// noise is n pieces of so many bytes without a pattern, always the same ones for one seed.
func noise(seed uint32, n, length int) []string {
	l := make([]string, n)
	for i := range l {
		s := make([]byte, length)
		for j := range s {
			seed = seed*1664525 + 1013904223
			s[j] = byte(seed >> 24)
		}
		l[i] = string(s)
	}
	return l
}

// byHand is the parity as the chapters' words say it, byte by byte.
func byHand(k, m int, data []string) []string {
	var l []string
	for i := range m {
		sum := make([]byte, len(data[0]))
		for j, s := range data {
			c, _ := gf.Inv(byte((k + i) ^ j))
			for x := range sum {
				sum[x] ^= gf.Mul(c, s[x])
			}
		}
		l = append(l, string(sum))
	}
	return l
}

// together is a put together (exclusive or) with b.
func together(a, b []string) []string {
	l := make([]string, len(a))
	for i := range a {
		s := []byte(a[i])
		for j := range s {
			s[j] ^= b[i][j]
		}
		l[i] = string(s)
	}
	return l
}

// whole is a stripe: data, and its parity.
func whole(t *testing.T, seed uint32, k, m, length int) []string {
	t.Helper()
	data := noise(seed, k, length)
	parity, err := rs.Encode(k, m, data...)
	if err != api.OK {
		t.Fatalf("Encode(%d, %d, ..) has the error %d", k, m, err)
	}
	return slices.Concat(data, parity)
}

// left is these pieces, of which those that stand where bits has a 1 are there.
func left(all []string, bits int) []api.Piece {
	l := make([]api.Piece, len(all))
	for i, s := range all {
		if bits>>i&1 == 1 {
			l[i] = api.Piece{There: true, Data: s}
		}
	}
	return l
}

// ones is how many bits are 1.
func ones(bits int) int {
	n := 0
	for ; bits > 0; bits >>= 1 {
		n += bits & 1
	}
	return n
}

// pair is a k and an m.
type pair struct{ k, m int }

func mayNotBe() []pair {
	return []pair{
		{0, 0}, {0, 1}, {-1, 0}, {-1, 1}, {1, -1}, {255, 1}, {1, 255}, {256, 0}, {128, 128}, {300, -100}, {-100, 300}, {0, 255}, {5, -1},
		{math.MaxInt, 0}, {math.MaxInt, 1}, {1, math.MaxInt}, {math.MaxInt, math.MaxInt}, {math.MinInt, 0}, {math.MinInt, math.MaxInt}, {1, math.MinInt}, {1<<32 + 1, 0},
	}
}

func mayBe() []pair {
	return []pair{{1, 0}, {1, 1}, {255, 0}, {254, 1}, {1, 254}, {127, 128}, {128, 127}, {4, 2}, {16, 4}, {2, 0}, {3, 5}}
}

func TestCheck(t *testing.T) { // 4.1
	for _, x := range mayBe() {
		if err := rs.Check(x.k, x.m); err != api.OK {
			t.Errorf("Check(%d, %d) = %d", x.k, x.m, err)
		}
	}
	for _, x := range mayNotBe() {
		if err := rs.Check(x.k, x.m); err != api.ErrRange {
			t.Errorf("Check(%d, %d) = %d", x.k, x.m, err)
		}
	}
}

func TestEncode(t *testing.T) { // 4.1
	for _, x := range []struct {
		k, m       int
		data, want []string
	}{
		{2, 2, []string{"\x01\x00\x02", "\x00\x01\x03"}, []string{"\x8e\xf4\x00", "\xf4\x8e\x7a"}},
		{1, 1, []string{"\x05\x07"}, []string{"\x05\x07"}},
		{1, 2, []string{"\x01\x02"}, []string{"\x01\x02", "\x8e\x01"}},
		{3, 0, []string{"a", "b", "c"}, nil},
		{2, 2, []string{"", ""}, []string{"", ""}},
	} {
		if got, err := rs.Encode(x.k, x.m, x.data...); err != api.OK || !slices.Equal(got, x.want) {
			t.Errorf("Encode(%d, %d, %x) = %x, %d, not %x", x.k, x.m, x.data, got, err, x.want)
		}
	}
	for _, x := range mayBe() {
		for _, length := range []int{0, 1, 2, 17} {
			data := noise(uint32(x.k), x.k, length)
			if got, err := rs.Encode(x.k, x.m, data...); err != api.OK || !slices.Equal(got, byHand(x.k, x.m, data)) {
				t.Errorf("Encode(%d, %d, ..) of %d bytes is another one, or has the error %d", x.k, x.m, length, err)
			}
		}
	}
}

func TestGreatestPieces(t *testing.T) { // 4.1, 4.2
	all := whole(t, 1, 3, 2, api.MaxPiece)
	if !slices.Equal(all[3:], byHand(3, 2, all[:3])) {
		t.Error("the parity of pieces of MaxPiece bytes is another one")
	}
	if got, err := rs.Decode(3, 2, left(all, 0b11010)...); err != api.OK || !slices.Equal(got, all) {
		t.Errorf("pieces of MaxPiece bytes do not come back: %d", err)
	}
	if !rs.Good(3, 2, all...) {
		t.Error("pieces of MaxPiece bytes are not good")
	}
}

// badData is data for k 3 that are not right.
func badData() [][]string {
	long := strings.Repeat("a", api.MaxPiece+1)
	return [][]string{
		nil, {"a"}, {"a", "b"}, {"a", "b", "c", "d"},
		{"a", "b", "cc"}, {"a", "bb", "c"}, {"aa", "b", "c"}, {"a", "b", ""}, {"", "b", "c"},
		{long, long, long}, {long, "a", "b"}, {"a", "b", long},
	}
}

func TestEncodeOfWrongInputs(t *testing.T) { // 4.1
	for i, data := range badData() {
		for _, m := range []int{0, 1, 2, 252} {
			if got, err := rs.Encode(3, m, data...); got != nil || err != api.ErrForm {
				t.Errorf("Encode(3, %d, the wrong data %d) = %d pieces, %d", m, i, len(got), err)
			}
		}
	}
	for _, x := range mayNotBe() {
		for _, data := range [][]string{nil, {"a"}, {"a", "bb"}} {
			if got, err := rs.Encode(x.k, x.m, data...); got != nil || err != api.ErrRange {
				t.Errorf("Encode(%d, %d, %q) = %q, %d", x.k, x.m, data, got, err)
			}
		}
	}
}

func TestBack(t *testing.T) { // 4.2, 4.4: whatever is there
	for k := 1; k <= 5; k++ {
		for m := range 5 {
			all := whole(t, uint32(10*k+m), k, m, 3)
			for bits := range 1 << (k + m) {
				got, err := rs.Decode(k, m, left(all, bits)...)
				if ones(bits) < k {
					if got != nil || err != api.ErrDamaged {
						t.Errorf("Decode(%d, %d, those of %b) = %x, %d", k, m, bits, got, err)
					}
				} else if err != api.OK || !slices.Equal(got, all) {
					t.Errorf("Decode(%d, %d, those of %b) = %x, %d, not %x", k, m, bits, got, err, all)
				}
			}
		}
	}
}

func TestBackOfMany(t *testing.T) { // 4.4
	for _, x := range []pair{{1, 254}, {127, 128}, {200, 55}, {254, 1}, {255, 0}, {16, 4}} {
		all := whole(t, uint32(x.k), x.k, x.m, 2)
		for _, step := range []int{1, 2, 127, 254} { // the places next to one another, or spread out
			pieces := make([]api.Piece, len(all))
			for i := range x.k {
				at := (i*step + x.m) % len(all)
				for pieces[at].There {
					at = (at + 1) % len(all)
				}
				pieces[at] = api.Piece{There: true, Data: all[at]}
			}
			if got, err := rs.Decode(x.k, x.m, pieces...); err != api.OK || !slices.Equal(got, all) {
				t.Errorf("Decode(%d, %d, ..) does not bring all back: %d", x.k, x.m, err)
			}
		}
	}
}

func TestDecodeOfNoBytes(t *testing.T) { // 4.2
	got, err := rs.Decode(2, 1, api.Piece{}, api.Piece{There: true}, api.Piece{There: true})
	if err != api.OK || !slices.Equal(got, []string{"", "", ""}) {
		t.Errorf("Decode of pieces of no bytes = %q, %d", got, err)
	}
}

func TestDecodeOfTheFirst(t *testing.T) { // 4.2: pieces of more than one stripe come to that of the first k that are there
	all, other := whole(t, 1, 3, 3, 4), whole(t, 2, 3, 3, 4)
	for bits := range 1 << 6 {
		if ones(bits) <= 3 {
			continue
		}
		pieces, n := left(all, bits), 0
		for i := range pieces {
			if pieces[i].There {
				if n++; n > 3 {
					pieces[i].Data = other[i]
				}
			}
		}
		if got, err := rs.Decode(3, 3, pieces...); err != api.OK || !slices.Equal(got, all) {
			t.Errorf("Decode of those of %b = %x, %d, not %x", bits, got, err, all)
		}
	}
}

func TestDecodeLeavesOut(t *testing.T) { // 4.2: the bytes of a piece that is not there are nothing
	all := whole(t, 1, 2, 2, 3)
	for _, s := range []string{"", "abc", "abcd", strings.Repeat("a", api.MaxPiece+1)} {
		pieces := left(all, 0b1010)
		pieces[0].Data, pieces[2].Data = s, s
		if got, err := rs.Decode(2, 2, pieces...); err != api.OK || !slices.Equal(got, all) {
			t.Errorf("Decode beside %d bytes that are not there = %x, %d", len(s), got, err)
		}
	}
}

func TestDecodeOfWrongInputs(t *testing.T) { // 4.2
	is := func(l ...string) []api.Piece { return left(l, 1<<len(l)-1) }
	none := api.Piece{}
	long := strings.Repeat("a", api.MaxPiece+1)
	for i, pieces := range [][]api.Piece{
		nil, is("a", "b", "c"), is("a", "b", "c", "d", "e"), make([]api.Piece, 3), make([]api.Piece, 5),
		is("a", "b", "c", "dd"), is("aa", "b", "c", "d"), is("a", "b", "c", ""), is("", "b", "c", "d"),
		is(long, long, long, long), append(is("a", "b", long), none), append(is("a", long, "b"), none),
		append(is(long), none, none, none), append(is("a", "bb"), none, none), // ErrForm is ahead of ErrDamaged
		{none, none, none, {There: true, Data: long}},
		{none, {There: true, Data: "a"}, none, {There: true, Data: "bb"}},
	} {
		if got, err := rs.Decode(3, 1, pieces...); got != nil || err != api.ErrForm {
			t.Errorf("Decode of the wrong pieces %d = %q, %d", i, got, err)
		}
	}
	for _, pieces := range [][]api.Piece{make([]api.Piece, 4), append(is("a", "b"), none, none), {none, none, none, {There: true, Data: "a"}}} {
		if got, err := rs.Decode(3, 1, pieces...); got != nil || err != api.ErrDamaged {
			t.Errorf("Decode of too few pieces = %q, %d", got, err)
		}
	}
	for _, x := range mayNotBe() {
		for _, pieces := range [][]api.Piece{nil, is("a"), is("a", "bb"), make([]api.Piece, 256)} {
			if got, err := rs.Decode(x.k, x.m, pieces...); got != nil || err != api.ErrRange {
				t.Errorf("Decode(%d, %d, ..) = %q, %d", x.k, x.m, got, err)
			}
		}
	}
}

func TestGood(t *testing.T) { // 4.2
	for k := 1; k <= 4; k++ {
		for m := range 4 {
			all := whole(t, uint32(10*k+m), k, m, 3)
			if !rs.Good(k, m, all...) {
				t.Errorf("a stripe of %d and %d is not good", k, m)
			}
			for i := range all {
				for j := range 3 {
					bad := slices.Clone(all)
					s := []byte(bad[i])
					s[j] ^= 0x40
					bad[i] = string(s)
					if rs.Good(k, m, bad...) != (m == 0) {
						t.Errorf("a stripe of %d and %d, of which the byte %d of the piece %d is another one: Good = %v", k, m, j, i, m != 0)
					}
				}
			}
		}
	}
	if !rs.Good(2, 1, "", "", "") || !rs.Good(1, 1, "ab", "ab") || !rs.Good(255, 0, noise(1, 255, 1)...) {
		t.Error("a stripe of no bytes, or an edge, is not good")
	}
}

func TestGoodOfWrongInputs(t *testing.T) { // 4.2
	all := whole(t, 1, 3, 2, 4)
	long := strings.Repeat("\x00", api.MaxPiece+1)
	for i, pieces := range [][]string{
		nil, all[:4], append(slices.Clone(all), all[0]), all[:3],
		{"", "", "", "", "\x00"}, {"\x00", "\x00", "\x00", "\x00", ""}, {"\x00", "\x00", "", "\x00", "\x00"}, {"\x00", "\x00", "\x00", "\x00\x00", "\x00\x00"},
		{all[0], all[1], all[2], all[4], all[3]}, {all[1], all[0], all[2], all[3], all[4]},
		{long, long, long, long, long},
	} {
		if rs.Good(3, 2, pieces...) {
			t.Errorf("the wrong pieces %d are good", i)
		}
	}
	if rs.Good(2, 0, "a", "bb") || rs.Good(1, 0, long) || rs.Good(1, 0) {
		t.Error("data alone that are not right are good")
	}
	for _, x := range mayNotBe() {
		if rs.Good(x.k, x.m) || rs.Good(x.k, x.m, "a") || rs.Good(x.k, x.m, noise(1, 256, 1)...) || rs.Good(x.k, x.m, make([]string, 255)...) {
			t.Errorf("Good(%d, %d, ..)", x.k, x.m)
		}
	}
}

func TestNewMemory(t *testing.T) { // 4.3
	all := whole(t, 1, 3, 2, 4)
	was := slices.Clone(all)
	pieces := left(all, 0b11010)
	for range 2 { // what befalls an answer is not seen in the next one
		parity, err := rs.Encode(3, 2, all[:3]...)
		if err != api.OK || !slices.Equal(parity, was[3:]) {
			t.Errorf("Encode = %x, %d", parity, err)
		}
		got, err := rs.Decode(3, 2, pieces...)
		if err != api.OK || !slices.Equal(got, was) {
			t.Errorf("Decode = %x, %d", got, err)
		}
		for i := range parity {
			parity[i] = "other"
		}
		for i := range got {
			got[i] = "other"
		}
		if !slices.Equal(all, was) || !slices.Equal(pieces, left(was, 0b11010)) {
			t.Fatal("what was given was changed")
		}
	}
}

func TestTogether(t *testing.T) { // 4.5
	for _, x := range mayBe() {
		a, b := noise(1, x.k, 5), noise(2, x.k, 5)
		one, err1 := rs.Encode(x.k, x.m, a...)
		two, err2 := rs.Encode(x.k, x.m, b...)
		both, err3 := rs.Encode(x.k, x.m, together(a, b)...)
		if err1 != api.OK || err2 != api.OK || err3 != api.OK || !slices.Equal(both, together(one, two)) {
			t.Errorf("of %d and %d the parity of data that are put together is another one (%d, %d, %d)", x.k, x.m, err1, err2, err3)
		}
	}
}

func TestEach(t *testing.T) { // 4.6
	for _, x := range mayBe() {
		all := whole(t, 3, x.k, x.m, 4)
		for i := 0; i < x.k; i += 1 + x.k/20 {
			for _, by := range []byte{1, 0x80, 0xff} {
				data := slices.Clone(all[:x.k])
				s := []byte(data[i])
				s[i%4] ^= by
				data[i] = string(s)
				parity, err := rs.Encode(x.k, x.m, data...)
				if err != api.OK || len(parity) != x.m {
					t.Fatalf("Encode(%d, %d, ..) = %d pieces, %d", x.k, x.m, len(parity), err)
				}
				for j, p := range parity {
					if p == all[x.k+j] {
						t.Errorf("of %d and %d the piece %d does not change the parity %d", x.k, x.m, i, j)
					}
				}
			}
		}
	}
}
