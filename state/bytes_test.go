package state_test

import (
	"encoding/binary"
	"slices"
	"strings"
	"testing"

	"caulk/api"
	"caulk/state"
)

// four is the bytes of numbers, the lowest one first.
func four(l ...int) string {
	var s []byte
	for _, n := range l {
		s = binary.LittleEndian.AppendUint32(s, uint32(n))
	}
	return string(s)
}

// eight is the bytes of so many holes.
func eight(n int) string {
	return strings.Repeat("\x00", 8*n)
}

// code is the bytes of the entry of a member of a stripe.
func code(stripe, member int) string {
	return four(stripe+1, member)
}

// told is the bytes of sample, written out.
func told() string {
	return four(10, 6, 3, 3) +
		four(200, 3) +
		four(0) + code(3, 0) + eight(4) + code(3, 1) + eight(58) +
		four(1) + eight(6) + code(9, 1) + eight(57) +
		four(3) + eight(7) + code(3, 0) + eight(56) +
		four(0) + "\x01a" + four(10, 1) +
		four(0) + eight(9) + code(7, 1) + eight(54) +
		four(4) + "\x20nnnnnnnnnnnnnnnnnnnnnnnnnnnnnnnn" + four(0, 0) +
		four(5) + "\x01\x00" + four(200, 2) +
		four(0) + eight(5) + code(3, 1) + eight(58) +
		four(2) + eight(2) + code(9, 0) + eight(61) +
		four(3) + four(2, 1) + four(3, 2) + four(4, 3) +
		four(7) + four(19, 0xffffffff) + four(5, 0) + "\x0b\x00\x00\x00\x04\x03\x02\x01" +
		four(9) + four(12, 7) + four(13, 7) + four(6, 7)
}

func TestBytes(t *testing.T) { // 16.2
	s := sample()
	if got, err := state.Bytes(small(), s); got != told() || err != api.OK {
		t.Errorf("Bytes = %x, %d, not %x", got, err, told())
	}
	if !same(s, sample()) {
		t.Error("what was handed in is changed")
	}
	for _, x := range []struct {
		s    api.State
		want string
	}{
		{api.State{}, four(0, 0, 0, 0, 0, 0)},
		{api.State{NextStripe: 258, NextSnap: api.MaxId - 1}, four(258, api.MaxId-1, 0, 0, 0, 0)},
		{api.State{Now: api.Chart{Blocks: api.MaxBlocks}}, four(0, 0, 0, 0, api.MaxBlocks, 0)},
		{api.State{NextSnap: 1, Snaps: []api.Snap{{Name: "x", Chart: api.Chart{Blocks: 7}}}}, four(0, 1, 1, 0, 0, 0, 0) + "\x01x" + four(7, 0)},
	} {
		if got, err := state.Bytes(small(), x.s); got != x.want || err != api.OK {
			t.Errorf("Bytes(%v) = %x, %d, not %x", x.s, got, err, x.want)
		}
		if got, err := state.Parse(small(), x.want); !same(got, x.s) || err != api.OK {
			t.Errorf("Parse(%x) = %v, %d, not %v", x.want, got, err, x.s)
		}
	}
	for _, x := range append(unsettling(), wrong()...) {
		g, s := changed(x)
		if got, err := state.Bytes(g, s); got != "" || err != api.ErrForm {
			t.Errorf("%s: Bytes = %x, %d", x.say, got, err)
		}
	}
}

func TestThereAndBack(t *testing.T) { // 16.2, 16.4
	for _, x := range harmless() {
		g, s := changed(x)
		blob, err := state.Bytes(g, s)
		if err != api.OK {
			t.Errorf("%s: Bytes = %d", x.say, err)
		}
		if got, err := state.Parse(g, blob); !same(got, s) || err != api.OK {
			t.Errorf("%s: Parse = %v, %d, not %v", x.say, got, err, s)
		}
		for _, more := range []string{"\x00", "\x00\x00\x00\x00", blob} {
			if got, err := state.Parse(g, blob+more); !blank(got) || err != api.ErrCode {
				t.Errorf("%s: with bytes behind it Parse = %v, %d", x.say, got, err)
			}
		}
	}
}

func TestParseShort(t *testing.T) { // 16.2: cut off anywhere
	blob := told()
	for n := range blob {
		if got, err := state.Parse(small(), blob[:n]); !blank(got) || err != api.ErrCode {
			t.Fatalf("Parse of %d bytes = %v, %d", n, got, err)
		}
	}
	for n := 1; n < len(blob); n++ {
		if got, err := state.Parse(small(), blob[n:]); !blank(got) || err != api.ErrCode {
			t.Fatalf("Parse but for %d bytes = %v, %d", n, got, err)
		}
	}
}

func TestParseEachByte(t *testing.T) { // 16.2, 16.4: what is read is settled, and has just these bytes
	blob := told()
	read := 0
	for i := range blob {
		for _, b := range []byte{0, 1, 2, 3, 5, 6, 9, 31, 33, 97, 128, 255, blob[i] + 1, blob[i] - 1} {
			if b == blob[i] {
				continue
			}
			other := blob[:i] + string([]byte{b}) + blob[i+1:]
			s, err := state.Parse(small(), other)
			if err == api.ErrCode && blank(s) {
				continue
			}
			read++
			back, err2 := state.Bytes(small(), s)
			if err != api.OK || err2 != api.OK || back != other || !state.Settled(small(), s) {
				t.Fatalf("of the byte %d as %d Parse = %v, %d", i, b, s, err)
			}
		}
	}
	if read < 500 { // sums alone may be any
		t.Errorf("only %d other texts are a state's bytes", read)
	}
}

func TestParseWrong(t *testing.T) { // 16.2
	head, now := four(2, 2, 1, 1), four(10, 1, 0)+code(1, 0)+eight(63)
	snap, kin := four(1)+"\x02ab"+four(3, 0), four(1)+four(2, 7, 3, 8, 4, 9)
	if _, err := state.Parse(small(), head+now+snap+kin); err != api.OK {
		t.Fatalf("Parse = %d", err)
	}
	for _, s := range []string{
		"", "\x00",
		four(2, 2, 1, 2) + now + snap + kin, // counts of what is not there
		four(2, 2, 2, 1) + now + snap + kin,
		four(2, 2, 0, 1) + now + snap + kin,
		four(2, 2, 1, 0) + now + snap + kin,
		four(2, 2, 0xffffffff, 0xffffffff) + now + snap + kin,
		four(2, 2, 0xffffffff, 0xffffffff, 0xffffffff, 0xffffffff),
		four(0, 0, 0, 0, 0, 0xffffffff),
		four(0, 0, 0, 0xffffffff, 0, 0),
		four(2, 2, 1, 1) + four(10, 2, 0) + code(1, 0) + eight(63) + snap + kin,
		four(2, 2, 1, 1) + four(10, 0) + snap + kin, // nothing refers to the stripe
		four(2, 2, 1, 0) + now + snap,               // no such stripe
		four(api.MaxId, 2, 1, 1) + now + snap + kin,
		four(2, api.MaxId, 1, 1) + now + snap + kin,
		four(0xffffffff, 2, 1, 1) + now + snap + kin,
		four(1, 2, 1, 1) + now + snap + kin,
		four(2, 1, 1, 1) + now + snap + kin,
		head + four(0, 1, 0) + code(1, 0) + eight(63) + snap + kin,
		head + four(api.MaxBlocks+1, 1, 0) + code(1, 0) + eight(63) + snap + kin,
		head + four(10, 1, 1) + code(1, 0) + eight(63) + snap + kin,
		head + four(10, 1, 0) + code(1, 2) + eight(63) + snap + kin,
		head + four(10, 1, 0) + code(2, 0) + eight(63) + snap + kin,
		head + four(10, 1, 0) + code(1, 255) + eight(63) + snap + kin,
		head + four(10, 1, 0) + code(1, 0) + code(-1, 1) + eight(62) + snap + kin,
		head + four(10, 1, 0) + code(1, 0) + eight(62) + "\x00\x00\x00\x00\x00\x00\x00\x01" + snap + kin,
		head + four(10, 1, 0) + code(1, 0) + eight(62) + snap + kin,
		head + four(10, 1, 0) + code(1, 0) + eight(64) + snap + kin,
		head + now + four(1) + "\x00" + four(3, 0) + kin, // names
		head + now + four(1) + "\x21" + strings.Repeat("a", 33) + four(3, 0) + kin,
		head + now + four(1) + "\xff" + strings.Repeat("a", 255) + four(3, 0) + kin,
		head + now + four(1) + "\x01ab" + four(3, 0) + kin,
		four(2, 2, 2, 1) + now + four(0) + "\x02ab" + four(3, 0) + snap + kin,
		four(2, 2, 2, 1) + now + snap + four(0) + "\x02ac" + four(3, 0) + kin,
		four(2, 2, 2, 1) + now + snap + snap + kin,
		head + now + four(2) + "\x02ab" + four(3, 0) + kin,
		head + now + snap + four(1) + four(2, 7, 2, 8, 4, 9),
		head + now + snap + four(1) + four(1, 7, 3, 8, 4, 9),
		head + now + snap + four(1) + four(20, 7, 3, 8, 4, 9),
		head + now + snap + four(1) + four(2, 7, 3, 8),
		head + now + snap + four(1) + four(2, 7, 3, 8, 4, 9, 5, 10),
		head + now + snap + four(0) + four(2, 7, 3, 8, 4, 9),
		four(3, 2, 1, 2) + now + snap + kin + four(2) + four(5, 7, 6, 8, 4, 9),
		head + now + kin + snap,
	} {
		if got, err := state.Parse(small(), s); !blank(got) || err != api.ErrCode {
			t.Errorf("Parse(%x) = %v, %d", s, got, err)
		}
	}
	for _, x := range wrong() { // of another geometry
		if g, _ := changed(x); g != small() {
			if got, err := state.Parse(g, told()); !blank(got) || err != api.ErrCode {
				t.Errorf("%s: Parse = %v, %d", x.say, got, err)
			}
		}
	}
	for _, g := range []api.Geom{{}, {Shift: -1, K: -5, M: -5, Clusters: -1}, {K: 0, M: 1, Clusters: 20}, {K: 2, M: -1, Clusters: 20}, {K: 256, M: 0, Clusters: 20}, {K: 1 << 40, M: 0, Clusters: 20}} { // of too many members reading would not end
		for _, s := range []string{"", four(0, 0, 0, 0, 0, 0), four(1, 0, 0, 1, 0, 0, 0)} {
			if got, err := state.Parse(g, s); !blank(got) || err != api.ErrCode {
				t.Errorf("Parse(%v, %x) = %v, %d", g, s, got, err)
			}
		}
	}
}

// snapped is bytes of a state of more snapshots than there may be, or just as many.
func snapped(n int) string {
	s := four(0, n, n, 0, 0, 0)
	for i := range n {
		s += four(i) + "\x02" + string([]byte{'a' + byte(i/26), 'a' + byte(i%26)}) + four(0, 0)
	}
	return s
}

func TestParseMostSnaps(t *testing.T) { // 16.2
	if got, err := state.Parse(small(), snapped(api.MaxSnaps)); len(got.Snaps) != api.MaxSnaps || err != api.OK {
		t.Errorf("Parse of the most snapshots = %d, %d", len(got.Snaps), err)
	}
	if got, err := state.Parse(small(), snapped(api.MaxSnaps+1)); !blank(got) || err != api.ErrCode {
		t.Errorf("Parse of too many snapshots = %v, %d", got, err)
	}
}

// long is a settled state of about MaxBlob bytes: two maps that are full nearly, and names that have so many bytes more.
func long(more int) (api.Geom, api.State) {
	g := api.Geom{Shift: 0, K: 1, M: 1, Clusters: 20}
	s := api.State{NextStripe: 1, Stripes: []api.Stripe{{Id: 0, At: []int{2, 3}, Sums: []uint32{4, 5}}}, NextSnap: 12}
	full := map[int]api.Entry{}
	for part := range 1024 {
		full[64*part+part%64] = disk(0, 0)
	}
	s.Now = build(64, 64*1024, full)
	for i := range 12 {
		s.Snaps = append(s.Snaps, api.Snap{Id: i, Name: string([]byte{'a' + byte(i)})})
	}
	s.Snaps[3].Chart = build(64, 64*1007, full)
	for i := range s.Snaps {
		n := min(more, api.MaxName-1)
		s.Snaps[i].Name += strings.Repeat("x", n)
		more -= n
	}
	return g, s
}

func TestLong(t *testing.T) { // 16.2
	g, s := long(0)
	blob, err := state.Bytes(g, s)
	if err != api.OK || len(blob) > api.MaxBlob || api.MaxBlob-len(blob) > len(s.Snaps)*(api.MaxName-1)-2 {
		t.Fatalf("Bytes = %d, %d", len(blob), err)
	}
	more := api.MaxBlob - len(blob)
	for n := more - 1; n < more+3; n++ {
		g, s := long(n)
		if !state.Settled(g, s) {
			t.Fatalf("of %d bytes more it is not settled", n)
		}
		blob, err := state.Bytes(g, s)
		if n > more {
			if blob != "" || err != api.ErrLong {
				t.Errorf("of %d bytes too many Bytes = %d, %d", n-more, len(blob), err)
			}
			continue
		}
		if len(blob) != api.MaxBlob-more+n || err != api.OK {
			t.Errorf("of %d bytes less Bytes = %d, %d", more-n, len(blob), err)
		}
		if got, err := state.Parse(g, blob); !same(got, s) || err != api.OK {
			t.Errorf("of %d bytes less Parse = %d", more-n, err)
		}
	}
	s.Snaps[0].Chart = s.Now // far too many bytes
	if blob, err := state.Bytes(g, s); blob != "" || err != api.ErrLong {
		t.Errorf("of far too many bytes Bytes = %d, %d", len(blob), err)
	}
	s.Now.Tables = slices.Clone(s.Now.Tables)
	s.Now.Tables[0] = api.Table{At: 0, L: append([]api.Entry{fresh(1)}, s.Now.Tables[0].L[1:]...)}
	if blob, err := state.Bytes(g, s); blob != "" || err != api.ErrForm { // that it is not settled is ahead of that
		t.Errorf("of something fresh, and far too many bytes Bytes = %d, %d", len(blob), err)
	}
}

func TestPlay(t *testing.T) { // 16.4: states of all kinds
	seed := uint32(1)
	next := func(n int) int {
		seed = seed*1664525 + 1013904223
		return int(seed>>8) % n
	}
	for range 300 {
		g := api.Geom{Shift: next(2), K: 1 + next(3), M: next(3), Clusters: 60}
		e := 64 << g.Shift
		s := api.State{NextStripe: next(100), NextSnap: 70}
		free := 2
		for range next(8) {
			x := api.Stripe{Id: s.NextStripe}
			for range g.K + g.M {
				x.At, x.Sums = append(x.At, free), append(x.Sums, seed)
				free += 1 + next(2)*next(2)
			}
			s.NextStripe += 1 + next(3)
			s.Stripes = append(s.Stripes, x)
		}
		chart := func() api.Chart {
			full, blocks := map[int]api.Entry{}, next(300)
			for range next(20) {
				if blocks > 0 && len(s.Stripes) > 0 {
					full[next(blocks)] = disk(s.Stripes[next(len(s.Stripes))].Id, next(g.K))
				}
			}
			return build(e, blocks, full)
		}
		s.Now = chart()
		for id := range next(5) {
			s.Snaps = append(s.Snaps, api.Snap{Id: 3 * id, Name: strings.Repeat("z", 1+id*7), Chart: chart()})
		}
		back(t, g, s)
	}
}

// back fails, if s is not right, or is settled and not read from its bytes.
func back(t *testing.T, g api.Geom, s api.State) {
	t.Helper()
	if err := state.Check(g, s); err != api.OK {
		t.Fatalf("Check(%v, %v) = %d", g, s, err)
	}
	referred := map[int]int{}
	for _, c := range state.Charts(s) {
		for _, table := range c.Tables {
			for _, x := range table.L {
				if x.Kind == api.EntryDisk {
					referred[x.Place.Stripe]++
				}
			}
		}
	}
	blob, err := state.Bytes(g, s)
	if len(referred) < len(s.Stripes) {
		if blob != "" || err != api.ErrForm || state.Settled(g, s) {
			t.Fatalf("of stripes that nothing refers to Bytes = %x, %d", blob, err)
		}
		s.Stripes = slices.DeleteFunc(s.Stripes, func(x api.Stripe) bool { return referred[x.Id] == 0 })
		blob, err = state.Bytes(g, s)
	}
	got, err2 := state.Parse(g, blob)
	if !same(got, s) || err != api.OK || err2 != api.OK {
		t.Fatalf("Parse(%x) = %v, %d, not %v", blob, got, err2, s)
	}
	if again, err := state.Bytes(g, got); again != blob || err != api.OK {
		t.Fatalf("Bytes of what was read = %x, %d, not %x", again, err, blob)
	}
}
