package dev_test

import (
	"math"
	"slices"
	"strconv"
	"strings"
	"testing"

	"caulk/api"
	"caulk/dev"
)

// full is a sector of one byte.
func full(b byte) string {
	return strings.Repeat(string([]byte{b}), api.Sector)
}

// noise is n sectors without a pattern, always the same ones for one seed.
func noise(seed uint32, n int) string {
	l := make([]byte, n*api.Sector)
	for i := range l {
		seed = seed*1664525 + 1013904223
		l[i] = byte(seed >> 24)
	}
	return string(l)
}

// part is the sector at of s.
func part(s string, at int) string {
	return s[at*api.Sector : (at+1)*api.Sector]
}

// made is a device whose sure bytes are these.
func made(t *testing.T, s string) *dev.Dev {
	t.Helper()
	d, err := dev.Load(s)
	if err != api.OK || d == nil {
		t.Fatalf("Load(%d bytes) has the error %d", len(s), err)
	}
	return d
}

// is ends a test, if what a call answered is another error.
func is(t *testing.T, say string, got, want api.Errno) {
	t.Helper()
	if got != want {
		t.Fatalf("%s = %d, not %d", say, got, want)
	}
}

// reads ends a test, if a sector is not read so.
func reads(t *testing.T, d *dev.Dev, at int, want string, wantErr api.Errno) {
	t.Helper()
	if got, err := d.Read(at); got != want || err != wantErr {
		t.Fatalf("Read(%d) = %.8x.., %d, not %.8x.., %d", at, got, err, want, wantErr)
	}
}

// lists ends a test, if a list is another one.
func lists(t *testing.T, say string, got []int, want ...int) {
	t.Helper()
	if !slices.Equal(got, want) {
		t.Fatalf("%s = %v, not %v", say, got, want)
	}
}

func TestNew(t *testing.T) { // 5.1
	for _, n := range []int{1, 2, 3, 100, api.MaxSectors - 1, api.MaxSectors} {
		d, err := dev.New(n)
		is(t, "New", err, api.OK)
		if d.Sectors() != n || d.Down() || d.Writes() != 0 || d.Bytes() != strings.Repeat("\x00", n*api.Sector) {
			t.Errorf("New(%d) has %d sectors, is down: %v, took %d writes, or is not blank", n, d.Sectors(), d.Down(), d.Writes())
		}
		lists(t, "Waiting", d.Waiting())
		lists(t, "Bad", d.Bad())
		reads(t, d, 0, full(0), api.OK)
		reads(t, d, n-1, full(0), api.OK)
	}
	for _, n := range []int{0, -1, api.MaxSectors + 1, math.MaxInt, math.MinInt, 1 << 32} {
		if d, err := dev.New(n); d != nil || err != api.ErrRange {
			t.Errorf("New(%d) = %v, %d", n, d != nil, err)
		}
	}
}

func TestLoad(t *testing.T) { // 5.1
	for _, n := range []int{1, 2, 5, api.MaxSectors} {
		s := noise(uint32(n), n)
		d := made(t, s)
		if d.Sectors() != n || d.Bytes() != s || d.Down() || d.Writes() != 0 {
			t.Errorf("Load of %d sectors has %d, or other bytes", n, d.Sectors())
		}
		lists(t, "Waiting", d.Waiting())
		lists(t, "Bad", d.Bad())
		for at := range min(n, 5) {
			reads(t, d, at, part(s, at), api.OK)
		}
	}
	for _, n := range []int{0, 1, api.Sector - 1, api.Sector + 1, 2*api.Sector - 1, api.MaxSectors*api.Sector - 1, api.MaxSectors*api.Sector + 1, (api.MaxSectors + 1) * api.Sector} {
		if d, err := dev.Load(strings.Repeat("a", n)); d != nil || err != api.ErrForm {
			t.Errorf("Load(%d bytes) = %v, %d", n, d != nil, err)
		}
	}
}

func TestWrite(t *testing.T) { // 5.1, 5.2
	s := noise(1, 4)
	d := made(t, s)
	is(t, "Write", d.Write(3, full('a')), api.OK)
	is(t, "Write", d.Write(0, full('b')), api.OK)
	is(t, "Write", d.Write(3, full('c')), api.OK) // in place of what was not flushed
	reads(t, d, 3, full('c'), api.OK)
	reads(t, d, 0, full('b'), api.OK)
	reads(t, d, 1, part(s, 1), api.OK)
	lists(t, "Waiting", d.Waiting(), 0, 3)
	if d.Bytes() != s || d.Writes() != 3 {
		t.Errorf("behind 3 writes %d were taken, or what is not flushed is sure", d.Writes())
	}
	is(t, "Flush", d.Flush(), api.OK)
	if d.Bytes() != full('b')+part(s, 1)+part(s, 2)+full('c') || d.Writes() != 3 {
		t.Errorf("behind a flush %d writes were taken, or other bytes are sure", d.Writes())
	}
	lists(t, "Waiting", d.Waiting())
	is(t, "Flush", d.Flush(), api.OK) // of nothing
	is(t, "Write", d.Write(1, full(0)), api.OK)
	if d.Writes() != 4 {
		t.Errorf("%d writes were taken", d.Writes())
	}
}

func TestWaitingRises(t *testing.T) { // 5.1
	d, _ := dev.New(300)
	var want []int
	for i := range 100 {
		at := i * 77 % 300
		is(t, "Write", d.Write(at, full(1)), api.OK)
		is(t, "Erase", d.Erase(at), api.OK)
		want = append(want, at)
	}
	slices.Sort(want)
	lists(t, "Waiting", d.Waiting(), want...)
	lists(t, "Bad", d.Bad(), want...)
}

// wrong are places at which a device of 4 sectors has none.
func wrong() []int {
	return []int{-1, 4, 5, math.MaxInt, math.MinInt, 1 << 32}
}

func TestWrongWrites(t *testing.T) { // 5.2: and which error is the first
	s := noise(1, 4)
	d := made(t, s)
	d.Fuse(0)
	for _, at := range wrong() {
		is(t, "Write nowhere", d.Write(at, full('a')), api.ErrRange)
		is(t, "Write of too little nowhere", d.Write(at, "a"), api.ErrRange)
	}
	for _, n := range []int{0, 1, api.Sector - 1, api.Sector + 1, 2 * api.Sector} {
		is(t, "Write of another length", d.Write(1, strings.Repeat("a", n)), api.ErrForm)
	}
	if d.Down() || d.Writes() != 0 || d.Bytes() != s {
		t.Fatal("a write that is wrong is taken, or takes the device down")
	}
	is(t, "Write at the end of a fuse", d.Write(1, full('a')), api.ErrDown)
	if !d.Down() {
		t.Fatal("it is not down")
	}
	is(t, "Write, when it is down", d.Write(1, full('a')), api.ErrDown)
	is(t, "Write nowhere, when it is down", d.Write(-1, full('a')), api.ErrDown)
	is(t, "Write of nothing, when it is down", d.Write(1, ""), api.ErrDown)
	lists(t, "Waiting", d.Waiting())
	if d.Writes() != 0 || d.Bytes() != s {
		t.Error("a device that is down took a write")
	}
}

func TestWrongReads(t *testing.T) { // 5.2
	s := noise(1, 4)
	d := made(t, s)
	is(t, "Erase", d.Erase(2), api.OK)
	for _, at := range wrong() {
		reads(t, d, at, "", api.ErrRange)
	}
	reads(t, d, 2, "", api.ErrBad)
	is(t, "Write", d.Write(2, full('a')), api.OK)
	reads(t, d, 2, full('a'), api.OK) // what is not flushed can be read, for it is not what is bad
	d.Fuse(0)
	reads(t, d, 2, full('a'), api.OK) // a fuse takes reads
	is(t, "Flush", d.Flush(), api.ErrDown)
	for _, at := range append(wrong(), 0, 2) {
		reads(t, d, at, "", api.ErrDown)
	}
	d.Crash()
	reads(t, d, 0, part(s, 0), api.OK)
	reads(t, d, 2, "", api.ErrBad)
}

func TestFlush(t *testing.T) { // 5.2
	s := noise(1, 4)
	d := made(t, s)
	for _, at := range []int{0, 1, 2} {
		is(t, "Erase", d.Erase(at), api.OK)
	}
	is(t, "Write", d.Write(1, full('a')), api.OK)
	is(t, "Write", d.Write(3, full('b')), api.OK)
	lists(t, "Bad", d.Bad(), 0, 1, 2)
	is(t, "Flush", d.Flush(), api.OK)
	lists(t, "Bad", d.Bad(), 0, 2) // those alone that were written are not bad
	lists(t, "Waiting", d.Waiting())
	reads(t, d, 0, "", api.ErrBad)
	reads(t, d, 1, full('a'), api.OK)
	reads(t, d, 3, full('b'), api.OK)
	if d.Bytes() != full(0)+full('a')+full(0)+full('b') {
		t.Error("behind a flush other bytes are sure")
	}
	is(t, "Erase", d.Erase(1), api.OK)
	is(t, "Flush", d.Flush(), api.OK) // what was flushed once is not there to be flushed again
	reads(t, d, 1, "", api.ErrBad)
}

func TestFuse(t *testing.T) { // 5.2, 5.3
	for n := range 6 {
		d, _ := dev.New(4)
		d.Fuse(n)
		for i := range n {
			if i%3 == 2 {
				is(t, "Flush with a fuse", d.Flush(), api.OK)
			} else {
				is(t, "Write with a fuse", d.Write(i%4, full(byte(i+1))), api.OK)
			}
			if d.Down() {
				t.Fatalf("it is down behind %d of %d", i+1, n)
			}
		}
		waiting, sure := d.Waiting(), d.Bytes()
		if n%2 == 0 {
			is(t, "Flush at the end of a fuse", d.Flush(), api.ErrDown)
		} else {
			is(t, "Write at the end of a fuse", d.Write(0, full(99)), api.ErrDown)
		}
		is(t, "Flush, when it is down", d.Flush(), api.ErrDown)
		lists(t, "Waiting", d.Waiting(), waiting...)
		if !d.Down() || d.Bytes() != sure || d.Writes() != n-n/3 {
			t.Errorf("a fuse of %d: %d writes were taken, it is down: %v", n, d.Writes(), d.Down())
		}
	}
}

func TestFusesAnew(t *testing.T) { // 5.3
	d, _ := dev.New(2)
	for _, n := range []int{-1, math.MinInt} {
		d.Fuse(0)
		d.Fuse(n)
		for range 10 {
			is(t, "Write without a fuse", d.Write(0, full(1)), api.OK)
			is(t, "Flush without a fuse", d.Flush(), api.OK)
		}
	}
	d.Fuse(1)
	d.Fuse(math.MaxInt)
	is(t, "Write", d.Write(0, full(1)), api.OK)
	is(t, "Flush", d.Flush(), api.OK)
	d.Fuse(0)
	is(t, "Flush", d.Flush(), api.ErrDown)
	for _, n := range []int{5, -1} { // no fuse brings up again what is down
		d.Fuse(n)
		is(t, "Write, when it is down", d.Write(0, full(1)), api.ErrDown)
		is(t, "Flush, when it is down", d.Flush(), api.ErrDown)
	}
}

func TestCrash(t *testing.T) { // 5.3: whatever is kept
	s := noise(1, 6)
	at := []int{0, 2, 3, 5}
	for bits := range 1 << 4 {
		for length := range 7 { // fewer than wait, or more
			d := made(t, s)
			keep := make([]bool, length)
			want := []byte(s)
			var bad []int
			for i, x := range at {
				is(t, "Write", d.Write(x, full(byte(i+1))), api.OK)
				is(t, "Erase", d.Erase(x), api.OK)
				if i < length && bits>>i&1 == 1 {
					keep[i] = true
					copy(want[x*api.Sector:], full(byte(i+1)))
				} else {
					bad = append(bad, x)
					copy(want[x*api.Sector:], full(0))
				}
			}
			for i := 4; i < length; i++ {
				keep[i] = true
			}
			d.Crash(keep...)
			lists(t, "Waiting", d.Waiting())
			lists(t, "Bad", d.Bad(), bad...)
			if d.Bytes() != string(want) || d.Down() || d.Writes() != 4 {
				t.Errorf("behind a crash that keeps %v other bytes are sure, or %d writes were taken", keep, d.Writes())
			}
			is(t, "Flush", d.Flush(), api.OK) // of nothing: what was lost stays so
			if d.Bytes() != string(want) {
				t.Errorf("behind a crash that keeps %v a flush changes bytes", keep)
			}
		}
	}
}

func TestCrashAnew(t *testing.T) { // 5.3: it is not down, and has no fuse
	d, _ := dev.New(2)
	d.Fuse(1)
	is(t, "Write", d.Write(1, full(7)), api.OK)
	is(t, "Flush", d.Flush(), api.ErrDown)
	d.Crash(true)
	if d.Down() || d.Bytes() != full(0)+full(7) {
		t.Error("behind a crash it is down, or has other bytes")
	}
	for range 3 {
		is(t, "Write", d.Write(0, full(1)), api.OK)
	}
	d.Fuse(2)
	d.Crash(false)
	for range 3 {
		is(t, "Flush", d.Flush(), api.OK)
	}
	reads(t, d, 0, full(0), api.OK)
}

func TestErase(t *testing.T) { // 5.3
	s := noise(1, 4)
	d := made(t, s)
	for _, at := range wrong() {
		is(t, "Erase nowhere", d.Erase(at), api.ErrRange)
	}
	lists(t, "Bad", d.Bad())
	for _, at := range []int{3, 0, 3} {
		is(t, "Erase", d.Erase(at), api.OK)
		reads(t, d, at, "", api.ErrBad)
	}
	lists(t, "Bad", d.Bad(), 0, 3)
	if d.Bytes() != full(0)+part(s, 1)+part(s, 2)+full(0) {
		t.Error("what is bad has bytes, or what is not has none")
	}
	d.Fuse(0)
	is(t, "Flush", d.Flush(), api.ErrDown)
	is(t, "Erase, when it is down", d.Erase(1), api.OK)
	is(t, "Erase nowhere, when it is down", d.Erase(4), api.ErrRange)
	lists(t, "Bad", d.Bad(), 0, 1, 3)
}

func TestGarble(t *testing.T) { // 5.3
	s := noise(1, 4)
	for _, off := range []int{0, 1, 100, api.Sector - 5, api.Sector - 4} {
		for _, by := range []uint32{0, 1, 0x100, 0x04030201, 0xffffffff, 0x80000000} {
			d := made(t, s)
			want := []byte(s)
			for i := range 4 {
				want[2*api.Sector+off+i] ^= byte(by >> (8 * i))
			}
			is(t, "Garble", d.Garble(2, off, by), api.OK)
			if d.Bytes() != string(want) {
				t.Errorf("Garble(2, %d, %08x): other bytes are sure", off, by)
			}
			reads(t, d, 2, part(string(want), 2), api.OK)
			is(t, "Garble", d.Garble(2, off, by), api.OK)
			if d.Bytes() != s {
				t.Errorf("Garble(2, %d, %08x) twice changes bytes", off, by)
			}
		}
	}
}

func TestGarbleOfWhat(t *testing.T) { // 5.3: of the sure bytes alone
	d := made(t, full(1)+full(2))
	is(t, "Write", d.Write(0, full(3)), api.OK)
	is(t, "Garble", d.Garble(0, 0, 0x04030201), api.OK)
	reads(t, d, 0, full(3), api.OK)
	if want := "\x00\x03\x02\x05" + full(1)[4:] + full(2); d.Bytes() != want {
		t.Errorf("garbled bytes are %.8x", d.Bytes())
	}
	is(t, "Erase", d.Erase(1), api.OK)
	is(t, "Garble", d.Garble(1, 0, 0xffffffff), api.OK)
	lists(t, "Bad", d.Bad(), 1)
	lists(t, "Waiting", d.Waiting(), 0)
	reads(t, d, 1, "", api.ErrBad)
	if d.Bytes()[api.Sector:] != full(0) {
		t.Error("what is bad has bytes when it is garbled")
	}
	d.Fuse(0)
	is(t, "Flush", d.Flush(), api.ErrDown)
	is(t, "Garble, when it is down", d.Garble(0, 0, 0x04030201), api.OK)
	d.Crash()
	reads(t, d, 0, full(1), api.OK)
}

func TestWrongGarbles(t *testing.T) { // 5.3
	s := noise(1, 4)
	d := made(t, s)
	for _, at := range wrong() {
		is(t, "Garble nowhere", d.Garble(at, 0, 1), api.ErrRange)
	}
	for _, off := range []int{-1, api.Sector - 3, api.Sector, math.MaxInt, math.MinInt} {
		is(t, "Garble outside", d.Garble(1, off, 1), api.ErrRange)
	}
	if d.Bytes() != s {
		t.Error("what is wrong changes bytes")
	}
}

// seen is all that a device tells, so that two can be held against each other, or one against what it was.
func seen(d *dev.Dev) string {
	l := []string{strconv.Itoa(d.Sectors()), strconv.Itoa(d.Writes()), strconv.FormatBool(d.Down()), d.Bytes()}
	for _, at := range d.Waiting() {
		l = append(l, "waiting "+strconv.Itoa(at))
	}
	for _, at := range d.Bad() {
		l = append(l, "bad "+strconv.Itoa(at))
	}
	for at := range d.Sectors() {
		s, err := d.Read(at)
		l = append(l, s, strconv.Itoa(int(err)))
	}
	return strings.Join(l, "\n")
}

func TestClone(t *testing.T) { // 5.1
	s := noise(1, 5)
	for down := range 2 {
		d := made(t, s)
		is(t, "Write", d.Write(1, full('a')), api.OK)
		is(t, "Erase", d.Erase(2), api.OK)
		d.Fuse(2 - 2*down)
		if down == 1 {
			is(t, "Flush", d.Flush(), api.ErrDown)
		}
		other := d.Clone()
		was := seen(d)
		if seen(other) != was {
			t.Fatal("a clone is another one")
		}
		changeAll(t, other)
		if seen(d) != was || seen(other) == was {
			t.Error("a device goes its clone's way")
		}
		was = seen(other)
		changeAll(t, d)
		if seen(d) != was {
			t.Error("a clone comes to something else by the same deeds")
		}
		is(t, "Garble", d.Garble(0, 0, 1), api.OK)
		is(t, "Erase", d.Erase(4), api.OK)
		d.Crash()
		if seen(other) != was {
			t.Error("a clone goes its device's way")
		}
	}
}

// changeAll changes all that a device has.
func changeAll(t *testing.T, d *dev.Dev) {
	t.Helper()
	is(t, "Garble", d.Garble(0, 0, 0x01020304), api.OK)
	is(t, "Erase", d.Erase(3), api.OK)
	d.Crash(true)
	is(t, "Write", d.Write(4, full('b')), api.OK)
}

func TestCloneOfAFuse(t *testing.T) { // 5.1
	d, _ := dev.New(1)
	d.Fuse(1)
	other := d.Clone()
	is(t, "Write", d.Write(0, full(1)), api.OK)
	is(t, "Write", other.Write(0, full(2)), api.OK)
	is(t, "Write", other.Write(0, full(3)), api.ErrDown)
	if d.Down() || !other.Down() {
		t.Error("the fuse of one is not its own")
	}
	is(t, "Write", d.Write(0, full(3)), api.ErrDown)
}

func TestNewMemory(t *testing.T) { // 5.4
	d, _ := dev.New(3)
	for _, at := range []int{0, 2} {
		is(t, "Write", d.Write(at, full(1)), api.OK)
		is(t, "Erase", d.Erase(at), api.OK)
	}
	for range 2 { // what befalls an answer is not seen in the next one
		waiting, bad := d.Waiting(), d.Bad()
		lists(t, "Waiting", waiting, 0, 2)
		lists(t, "Bad", bad, 0, 2)
		waiting[0], bad[0] = 7, 8
		lists(t, "Waiting", waiting, 7, 2)
		lists(t, "Bad", bad, 8, 2)
	}
	keep := []bool{true, false}
	d.Crash(keep...)
	if !keep[0] || keep[1] {
		t.Error("what was given was changed")
	}
}

func TestNoDevice(t *testing.T) { // of none, and of one that was not made by New or Load, nothing is told, and nothing panics
	for _, d := range []*dev.Dev{nil, new(dev.Dev)} {
		is(t, "Write", d.Write(0, full(1)), api.ErrRange)
		reads(t, d, 0, "", api.ErrRange)
		is(t, "Erase", d.Erase(0), api.ErrRange)
		is(t, "Garble", d.Garble(0, 0, 1), api.ErrRange)
		is(t, "Flush", d.Flush(), api.OK)
		d.Crash(true)
		d.Fuse(3)
		lists(t, "Waiting", d.Waiting())
		lists(t, "Bad", d.Bad())
		if d.Sectors() != 0 || d.Down() || d.Writes() != 0 || d.Bytes() != "" || (d.Clone() == nil) != (d == nil) {
			t.Error("something is told of no device")
		}
	}
}

// twin is what a device has, kept in the plainest way: each sector's sure bytes, and what waits there, "" for nothing.
type twin struct {
	sure, waits []string
	bad         []bool
	down        bool
	fuse        int // below 0 none
}

func (w *twin) burn() bool {
	if w.fuse == 0 {
		w.down = true
		return false
	}
	w.fuse = max(w.fuse-1, -1)
	return true
}

// settle ends the wait of all sectors: those at whose place keep is true are sure.
func (w *twin) settle(keep func(i int) bool) {
	i := 0
	for at, s := range w.waits {
		if s == "" {
			continue
		}
		if keep(i) {
			w.sure[at], w.bad[at] = s, false
		}
		w.waits[at] = ""
		i++
	}
}

func (w *twin) read(at int) (string, api.Errno) {
	switch {
	case w.down:
		return "", api.ErrDown
	case w.waits[at] != "":
		return w.waits[at], api.OK
	case w.bad[at]:
		return "", api.ErrBad
	}
	return w.sure[at], api.OK
}

// step does one thing to both, by a number without a pattern.
func (w *twin) step(t *testing.T, d *dev.Dev, by uint32) {
	t.Helper()
	at := int(by>>8) % len(w.sure)
	switch by % 16 {
	case 0, 1:
		want := api.ErrDown
		if !w.down && w.burn() {
			want = api.OK
			w.settle(func(int) bool { return true })
		}
		is(t, "Flush", d.Flush(), want)
	case 2:
		keep := make([]bool, by>>16%8)
		for i := range keep {
			keep[i] = by>>(20+i)&1 == 1
		}
		w.settle(func(i int) bool { return i < len(keep) && keep[i] })
		w.down, w.fuse = false, -1
		d.Crash(keep...)
	case 3:
		w.fuse = max(int(by>>16%12)-2, -1)
		d.Fuse(w.fuse)
	case 4:
		w.bad[at] = true
		is(t, "Erase", d.Erase(at), api.OK)
	case 5:
		l := []byte(w.sure[at])
		for i := range 4 {
			l[at+i] ^= byte(by >> (8 * i))
		}
		w.sure[at] = string(l)
		is(t, "Garble", d.Garble(at, at, by), api.OK)
	default:
		want := api.ErrDown
		if !w.down && w.burn() {
			want = api.OK
			w.waits[at] = full(byte(by >> 16))
		}
		is(t, "Write", d.Write(at, full(byte(by>>16))), want)
	}
}

func TestSure(t *testing.T) { // 5.5: whatever is done, in whatever order
	const n = 7
	for seed := range 200 {
		s := noise(uint32(seed), n)
		d := made(t, s)
		w := &twin{waits: make([]string, n), bad: make([]bool, n), fuse: -1}
		for at := range n {
			w.sure = append(w.sure, part(s, at))
		}
		by := uint32(seed)
		for range 120 {
			by = by*1664525 + 1013904223
			w.step(t, d, by>>3)
			for at := range n {
				want, err := w.read(at)
				reads(t, d, at, want, err)
			}
			if d.Down() != w.down {
				t.Fatalf("it is down: %v", d.Down())
			}
		}
		d.Crash()
		w.settle(func(int) bool { return false })
		w.down = false
		for at := range n {
			want, err := w.read(at)
			reads(t, d, at, want, err)
		}
	}
}
