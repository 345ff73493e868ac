package damage_test

import (
	"math"
	"reflect"
	"slices"
	"strconv"
	"strings"
	"testing"

	"caulk/api"
	"caulk/damage"
)

// wounds are right ones, in their order, and their lines.
func wounds() ([]api.Wound, []string) {
	return []api.Wound{
		{Kind: api.WoundSlot},
		{Kind: api.WoundSlot, Id: 0, At: 0, Healed: true},
		{Kind: api.WoundSlot, Id: 1, At: 1},
		{Kind: api.WoundSlot, Id: api.MaxId, At: api.MaxId, Healed: true},
		{Kind: api.WoundPage, Id: 0, Index: 0, At: 40},
		{Kind: api.WoundPage, Id: 0, Index: 1, At: 7},
		{Kind: api.WoundPage, Id: 9, Index: 0, At: 4, Healed: true},
		{Kind: api.WoundPage, Id: 9, Index: 0, At: 10},
		{Kind: api.WoundPage, Id: 10, Index: 1, At: 3},
		{Kind: api.WoundStripe, Id: 0, Index: 0, At: 2},
		{Kind: api.WoundStripe, Id: 3, Index: 2, At: 100, Healed: true},
		{Kind: api.WoundStripe, Id: 3, Index: 254, At: 12},
		{Kind: api.WoundStripe, Id: api.MaxId, Index: api.MaxId, At: 5},
		{Kind: api.WoundStripe, Id: api.MaxId, Index: api.MaxId, At: 5, Healed: true},
		{Kind: api.WoundStripe, Id: api.MaxId, Index: api.MaxId, At: api.MaxId},
	}, []string{
		"slot 0 0 0 open\n",
		"slot 0 0 0 healed\n",
		"slot 1 0 1 open\n",
		"slot 2147483648 0 2147483648 healed\n",
		"page 0 0 40 open\n",
		"page 0 1 7 open\n",
		"page 9 0 4 healed\n",
		"page 9 0 10 open\n",
		"page 10 1 3 open\n",
		"stripe 0 0 2 open\n",
		"stripe 3 2 100 healed\n",
		"stripe 3 254 12 open\n",
		"stripe 2147483648 2147483648 5 open\n",
		"stripe 2147483648 2147483648 5 healed\n",
		"stripe 2147483648 2147483648 2147483648 open\n",
	}
}

// losts are lost ranges that are right, and their lines.
func losts() ([]api.Lost, []string) {
	return []api.Lost{
		{Chart: -1, Blocks: api.Range{From: 3, To: 5}},
		{Chart: 0, Blocks: api.Range{From: 0, To: 1}},
		{Chart: 17, Blocks: api.Range{From: 0, To: api.MaxBlocks}},
		{Chart: api.MaxId, Blocks: api.Range{From: api.MaxBlocks - 1, To: api.MaxBlocks}},
		{Chart: -1, Blocks: api.Range{From: 3, To: 5}},
	}, []string{
		"lost now 3 5\n",
		"lost 0 0 1\n",
		"lost 17 0 65536\n",
		"lost 2147483648 65535 65536\n",
		"lost now 3 5\n",
	}
}

// wrongWounds are wounds that are not right.
func wrongWounds() []api.Wound {
	l := []api.Wound{
		{}, {Kind: api.WoundNone, Id: 1, At: 1}, {Kind: api.WoundCount}, {Kind: api.WoundCount + 1}, {Kind: math.MaxUint8},
		{Kind: api.WoundSlot, Index: 1}, {Kind: api.WoundPage, Index: 2}, {Kind: api.WoundSlot, Index: api.MaxId}, {Kind: api.WoundPage, Index: api.MaxId},
	}
	for _, kind := range []api.WoundKind{api.WoundSlot, api.WoundPage, api.WoundStripe} {
		for _, n := range []int{-1, math.MinInt, api.MaxId + 1, math.MaxInt} {
			l = append(l, api.Wound{Kind: kind, Id: n}, api.Wound{Kind: kind, Index: n}, api.Wound{Kind: kind, At: n})
		}
	}
	return l
}

// wrongLosts are lost ranges that are not right.
func wrongLosts() []api.Lost {
	l := []api.Lost{{}, {Chart: -1}}
	for _, n := range []int{-2, math.MinInt, api.MaxId + 1, math.MaxInt} {
		l = append(l, api.Lost{Chart: n, Blocks: api.Range{From: 1, To: 2}})
	}
	for _, r := range []api.Range{
		{From: 1, To: 1}, {From: 2, To: 1}, {From: -1, To: 1}, {From: -2, To: -1}, {From: 0, To: api.MaxBlocks + 1}, {From: api.MaxBlocks, To: api.MaxBlocks},
		{From: math.MinInt, To: math.MaxInt}, {From: math.MaxInt, To: math.MinInt}, {From: 0, To: math.MaxInt}, {From: math.MinInt, To: 0}, {From: 0, To: 0},
	} {
		l = append(l, api.Lost{Chart: -1, Blocks: r}, api.Lost{Chart: 3, Blocks: r})
	}
	return l
}

// whole is a report of all kinds, and its text.
func whole() (api.Report, string) {
	w, above := wounds()
	l, below := losts()
	return api.Report{Wounds: w, Lost: l}, strings.Join(above, "") + strings.Join(below, "")
}

// same tells whether two reports are one; a list of none may be none at all.
func same(a, b api.Report) bool {
	return slices.Equal(a.Wounds, b.Wounds) && slices.Equal(a.Lost, b.Lost)
}

// written ends a test, if the text of r is another one, or r is not read from it.
func written(t *testing.T, r api.Report, want string) {
	t.Helper()
	if err := damage.Check(r); err != api.OK {
		t.Fatalf("Check = %d", err)
	}
	if text, err := damage.Text(r); text != want || err != api.OK {
		t.Fatalf("Text = %.200q, %d, not %.200q", text, err, want)
	}
	if back, line, err := damage.Parse(want); !same(back, r) || line != 0 || err != api.OK {
		t.Fatalf("Parse = %v, %d, %d", back, line, err)
	}
}

func TestText(t *testing.T) { // 22.1, 22.2, 22.4
	written(t, api.Report{}, "")
	w, above := wounds()
	for i, x := range w {
		written(t, api.Report{Wounds: []api.Wound{x}}, above[i])
		written(t, api.Report{Wounds: []api.Wound{x, w[0], x}}, above[i]+above[0]+above[i]) // as they stand
	}
	l, below := losts()
	for i, x := range l {
		written(t, api.Report{Lost: []api.Lost{x}}, below[i])
		written(t, api.Report{Lost: []api.Lost{x, l[2], x}, Wounds: w[3:5]}, above[3]+above[4]+below[i]+below[2]+below[i])
	}
	r, text := whole()
	written(t, r, text)
	slices.Reverse(r.Wounds)
	slices.Reverse(above)
	written(t, r, strings.Join(above, "")+strings.Join(below, ""))
}

// unwritten ends a test, if r is not wrong in this way.
func unwritten(t *testing.T, r api.Report, want api.Errno) {
	t.Helper()
	if err := damage.Check(r); err != want {
		t.Errorf("Check = %d, not %d", err, want)
	}
	if text, err := damage.Text(r); text != "" || err != want {
		t.Errorf("Text = %.200q, %d, not %d", text, err, want)
	}
}

func TestWrong(t *testing.T) { // 22.1, 22.2
	for _, x := range wrongWounds() {
		unwritten(t, api.Report{Wounds: []api.Wound{x}}, api.ErrForm)
		for i := range 3 {
			r, _ := whole()
			r.Wounds[len(r.Wounds)/2*i%len(r.Wounds)] = x
			unwritten(t, r, api.ErrForm)
		}
	}
	for _, x := range wrongLosts() {
		unwritten(t, api.Report{Lost: []api.Lost{x}}, api.ErrForm)
		for i := range 3 {
			r, _ := whole()
			r.Lost[len(r.Lost)/2*i%len(r.Lost)] = x
			unwritten(t, r, api.ErrForm)
		}
	}
}

// many is a report of so many wounds and lost ranges, and its text.
func many(n, m int) (api.Report, string) {
	var r api.Report
	for range n {
		r.Wounds = append(r.Wounds, api.Wound{Kind: api.WoundSlot})
	}
	for range m {
		r.Lost = append(r.Lost, api.Lost{Blocks: api.Range{To: 1}})
	}
	return r, strings.Repeat("slot 0 0 0 open\n", n) + strings.Repeat("lost 0 0 1\n", m)
}

func TestLong(t *testing.T) { // 22.1, 22.2: MaxLines, together
	for _, n := range []int{0, 1, api.MaxLines / 2, api.MaxLines - 1, api.MaxLines} {
		r, text := many(n, api.MaxLines-n)
		written(t, r, text)
		for _, more := range [][2]int{{1, 0}, {0, 1}, {2, 3}} {
			r, text := many(n+more[0], api.MaxLines-n+more[1])
			unwritten(t, r, api.ErrLong)
			unread(t, text, api.MaxLines+1, api.ErrLong)
			if len(r.Wounds) > 0 {
				r.Wounds[0].Id = -1 // ErrLong is ahead of ErrForm
				unwritten(t, r, api.ErrLong)
			}
		}
		for _, wrong := range []string{"\n", "x\n", "slot 0 0 0 open", "lost 0 0 1", "lost 0 0 0\n", "slot 0 1 0 open\n"} {
			unread(t, text+wrong, api.MaxLines+1, api.ErrCode) // it is no line
		}
		if n < api.MaxLines {
			unread(t, text+"slot 0 0 0 open\n", api.MaxLines+1, api.ErrCode)
		}
	}
}

// unread ends a test, if text is not wrong in this way, first in this line.
func unread(t *testing.T, text string, want int, wantErr api.Errno) {
	t.Helper()
	if r, line, err := damage.Parse(text); !reflect.DeepEqual(r, api.Report{}) || line != want || err != wantErr {
		t.Errorf("of %.300q Parse = %d, %d, not %d, %d", text, line, err, want, wantErr)
	}
}

// noLines are what is none, with a line feed behind it or without one.
func noLines() []string {
	l := []string{
		"", " ", "\r", "x", "slot", "lost", "now", "none 0 0 0 open", " 0 0 0 open", "0 0 0 open", "Slot 0 0 0 open", "slots 0 0 0 open", "stripes 0 0 0 open",
		"slot 0 0 0", "slot 0 0 0 ", "slot 0 0 0 x", "slot 0 0 0 Open", "slot 0 0 0 true", "slot 0 0 open", "slot 0 0 0 0 open", "slot 0 0 0 open ", " slot 0 0 0 open", "slot 0 0 0 open healed",
		"slot  0 0 0 open", "slot 0  0 0 open", "slot 0 0  0 open", "slot 0 0 0  open", "slot\t0 0 0 open", "slot 0 0 0 open\r", "slot,0,0,0,open", "slot 0 0 0 lost",
		"slot 0 1 0 open", "page 0 2 0 open", "lost now 3 5 open", "lost now 3", "lost now 3 ", "lost 3 5", "lost  now 3 5", "lost now  3 5", "lost now 3  5", "lost now 3 5 ", " lost now 3 5",
		"lost Now 3 5", "lost -1 3 5", "lost nowhere 3 5", "lost -2 3 5", "lost now 3 3", "lost now 5 3", "lost now -1 3", "lost now 0 65537", "lost 2147483649 3 5", "lost now now 5", "lost now 3 now", "now 3 5", "Lost now 3 5", "page now 3 5",
	}
	for _, n := range []string{
		"", "00", "01", "+0", "+1", "-0", "-1", "0x1", "1_0", "1e1", "1.0", " 1", "one", "now", "2147483649", "9223372036854775807", "9223372036854775808", "-9223372036854775809", "99999999999999999999999", "\u0661", "1\x00", strings.Repeat("0", 100) + "1",
	} {
		for _, word := range []string{"slot", "page", "stripe"} {
			l = append(l, word+" "+n+" 0 1 open", word+" 1 "+n+" 1 open", word+" 1 0 "+n+" healed")
		}
		if n != "now" {
			l = append(l, "lost "+n+" 3 5")
		}
		l = append(l, "lost now "+n+" 5", "lost now 0 "+n)
	}
	return l
}

func TestParseWrong(t *testing.T) { // 22.2: ErrCode, and which line is the first that is none
	for _, s := range noLines() {
		for n := range 3 {
			_, ahead := many(n, 0)
			unread(t, ahead+s+"\n", n+1, api.ErrCode)
			unread(t, ahead+s+"\nslot 0 0 0 open\nx\n", n+1, api.ErrCode)
			_, ahead = many(1, n)
			unread(t, ahead+s+"\n", n+2, api.ErrCode)
			if s != "" {
				unread(t, ahead+s, n+2, api.ErrCode)
			}
		}
	}
	r, text := whole()
	lines := len(r.Wounds) + len(r.Lost)
	unread(t, text+"slot 0 0 0 open\n", lines+1, api.ErrCode) // behind a lost range
	unread(t, "lost now 3 5\npage 0 0 4 open\nlost now 3 5\n", 2, api.ErrCode)
	unread(t, text[:len(text)-1], lines, api.ErrCode)
	unread(t, "slot 0 0 0 open", 1, api.ErrCode)
	unread(t, "slot 0 0 0 open\r\n", 1, api.ErrCode)
	unread(t, text+"\n", lines+1, api.ErrCode)
	unread(t, strings.Repeat(" ", 1<<20), 1, api.ErrCode)
	unread(t, strings.Repeat("\n", 1<<20), 1, api.ErrCode)
}

func TestParseCanonical(t *testing.T) { // 22.4: what is read has this text, whatever stands there
	_, text := whole()
	for i := range len(text) {
		for _, by := range []string{"", " ", "0", "1", "-", "\n", "n", text[i:i+1] + text[i:i+1]} {
			s := text[:i] + by + text[i+1:]
			r, line, err := damage.Parse(s)
			if err == api.ErrCode && line > 0 && reflect.DeepEqual(r, api.Report{}) {
				continue
			}
			back, errBack := damage.Text(r)
			if err != api.OK || line != 0 || errBack != api.OK || back != s {
				t.Fatalf("of %q Parse = %v, %d, %d", s, r, line, err)
			}
		}
	}
}

func TestSort(t *testing.T) { // 22.1
	want, _ := wounds()
	for _, step := range []int{1, 2, 4, 7, 8, 11, 13, 14} { // none has a part in common with 15
		var l []api.Wound
		for i := range want {
			l = append(l, want[i*step%len(want)])
		}
		given := slices.Clone(l)
		if got := damage.Sort(l); !slices.Equal(got, want) {
			t.Errorf("Sort = %v", got)
		}
		if !slices.Equal(l, given) {
			t.Error("what was handed in is changed")
		}
	}
	twice := damage.Sort(append(slices.Clone(want), want...))
	for i, x := range twice {
		if x != want[i/2] {
			t.Errorf("Sort = %v", twice)
		}
	}
	if got := damage.Sort(nil); len(got) != 0 {
		t.Errorf("Sort = %v", got)
	}
	wrong := []api.Wound{{Kind: 200, Id: -1}, {Kind: 4}, {Kind: 1, Id: math.MaxInt}, {Kind: 1, Id: math.MinInt}, {At: -1, Healed: true}, {At: -1}} // any ones
	if got := damage.Sort(wrong); !slices.Equal(got, []api.Wound{wrong[5], wrong[4], wrong[3], wrong[2], wrong[1], wrong[0]}) {
		t.Errorf("Sort = %v", got)
	}
}

func TestCounts(t *testing.T) { // 22.1
	r, _ := whole()
	if n := damage.Open(r); n != 10 {
		t.Errorf("Open = %d", n)
	}
	if n := damage.Many(r); n != 2+1+api.MaxBlocks+1+2 {
		t.Errorf("Many = %d", n)
	}
	r = api.Report{Wounds: wrongWounds(), Lost: append(wrongLosts(), r.Lost[:2]...)}
	if n := damage.Open(r); n != len(r.Wounds) {
		t.Errorf("Open = %d", n)
	}
	if n := damage.Many(r); n != 3 {
		t.Errorf("Many = %d", n)
	}
	if damage.Open(api.Report{}) != 0 || damage.Many(api.Report{}) != 0 {
		t.Error("there is something of nothing")
	}
}

func TestMemory(t *testing.T) { // 22.3
	w, _ := wounds()
	got := damage.Sort(w)
	got[0].Id = 77
	if w[0].Id != 0 || damage.Sort(w[:1])[0].Id != 0 {
		t.Error("what is sorted is what was handed in")
	}
	l := slices.Grow(slices.Clone(w[:2]), 5)
	one, two := damage.Sort(l), damage.Sort(l)
	if &one[0] == &two[0] || &one[0] == &l[0] {
		t.Error("two lists share memory")
	}
	want, text := whole()
	for i := range 3 {
		r, _, err := damage.Parse(text)
		if err != api.OK || !same(r, want) {
			t.Fatalf("Parse = %v, %d", r, err)
		}
		r.Wounds[i].At, r.Lost[i].Chart = 66, 66
		_ = append(r.Wounds, w...)
		_ = append(r.Lost, r.Lost...)
	}
	before, _ := whole()
	if _, err := damage.Text(want); err != api.OK || !same(want, before) {
		t.Error("what was handed in is changed: " + strconv.Itoa(int(err)))
	}
}
