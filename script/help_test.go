package script_test

import (
	"fmt"
	"math"
	"slices"
	"strings"
	"testing"

	"caulk/api"
	"caulk/script"
)

// all is all bytes that there are, and their digits.
func all() (string, string) {
	var bytes, digits strings.Builder
	for i := range 256 {
		bytes.WriteByte(byte(i))
		digits.WriteString(string("0123456789abcdef"[i/16]) + string("0123456789abcdef"[i%16]))
	}
	return bytes.String(), digits.String()
}

// told are deeds that may be told, of each kind, and their lines.
func told() ([]api.Deed, []string) {
	bytes, digits := all()
	return []api.Deed{
		{Kind: api.DeedRead},
		{Kind: api.DeedRead, A: 12, B: 345},
		{Kind: api.DeedRead, A: api.MaxBytes, B: api.MaxBytes},
		{Kind: api.DeedWrite, A: 7, Text: "az"},
		{Kind: api.DeedWrite},
		{Kind: api.DeedWrite, A: api.MaxBytes, Text: bytes},
		{Kind: api.DeedWrite, A: 1, Text: "\x00"},
		{Kind: api.DeedWrite, A: 2, Text: strings.Repeat("\xf0", api.MaxLine)},
		{Kind: api.DeedZero, A: 100, B: 9},
		{Kind: api.DeedDiscard, A: 5, B: 0},
		{Kind: api.DeedResize, N: 10},
		{Kind: api.DeedResize, N: api.MaxBytes},
		{Kind: api.DeedSnap, Text: "-"},
		{Kind: api.DeedSnap},
		{Kind: api.DeedSnap, Text: bytes},
		{Kind: api.DeedDelete},
		{Kind: api.DeedDelete, N: 3},
		{Kind: api.DeedRevert, N: 1},
		{Kind: api.DeedOld, A: 2, B: 3, N: 1},
		{Kind: api.DeedOld, A: api.MaxBytes - 1, B: 10, N: 0},
		{Kind: api.DeedFlush},
		{Kind: api.DeedFuse, N: 0},
		{Kind: api.DeedFuse, N: 20},
		{Kind: api.DeedCrash, A: 1<<40 - 1},
		{Kind: api.DeedErase, N: 32767},
		{Kind: api.DeedGarble, N: 4, A: 508, B: 1<<32 - 1},
		{Kind: api.DeedScrub},
		{Kind: api.DeedCompact},
		{Kind: api.DeedRebuild},
		{Kind: api.DeedCheck},
	}, []string{
		"read 0 0",
		"read 12 345",
		"read 1099511627776 1099511627776",
		"write 7 617a",
		"write 0 -",
		"write 1099511627776 " + digits,
		"write 1 00",
		"write 2 " + strings.Repeat("f0", api.MaxLine),
		"zero 100 9",
		"discard 5 0",
		"resize 10",
		"resize 1099511627776",
		"snap 2d",
		"snap -",
		"snap " + digits,
		"delete 0",
		"delete 3",
		"revert 1",
		"old 1 2 3",
		"old 0 1099511627775 10",
		"flush",
		"fuse 0",
		"fuse 20",
		"crash 1099511627775",
		"erase 32767",
		"garble 4 508 4294967295",
		"scrub",
		"compact",
		"rebuild",
		"check",
	}
}

// setups are some that may be told, right geometries or not, and their lines.
func setups() ([]api.Setup, []string) {
	return []api.Setup{
		{},
		{Geom: api.Geom{Shift: 1, K: 2, M: 3, Clusters: 40}, Blocks: 500},
		{Geom: api.Geom{Shift: api.MaxBytes, K: api.MaxBytes, M: api.MaxBytes, Clusters: api.MaxBytes}, Blocks: api.MaxBytes},
		{Geom: api.Geom{Clusters: 10}},
	}, []string{
		"image 0 0 0 0 0",
		"image 1 2 3 40 500",
		"image 1099511627776 1099511627776 1099511627776 1099511627776 1099511627776",
		"image 0 0 0 10 0",
	}
}

// numbers are some that may not be told.
func numbers() []int {
	return []int{-1, api.MaxBytes + 1, math.MinInt, math.MaxInt, -api.MaxBytes, 1 << 41}
}

// untold are deeds that may not be told: by their kind, by what they have, and by what their lines do not tell.
func untold() []api.Deed {
	l := []api.Deed{{}, {A: 1, B: 2, N: 3, Text: "a"}}
	for _, kind := range []api.DeedKind{api.DeedNone, api.DeedCount, api.DeedCount + 1, math.MaxUint8} {
		l = append(l, api.Deed{Kind: kind}, api.Deed{Kind: kind, A: 1}, api.Deed{Kind: kind, N: 1})
	}
	deeds, _ := told()
	for _, d := range deeds {
		for _, n := range numbers() {
			a, b, c := d, d, d
			a.A, b.B, c.N = int64(n), int64(n), n
			l = append(l, a, b, c)
		}
		d.Text = strings.Repeat("x", api.MaxLine+1)
		l = append(l, d)
	}
	return append(l, unasked()...)
}

// unasked are deeds that would be right, if they had not what lines of their kinds do not tell.
func unasked() []api.Deed {
	var l []api.Deed
	for kind, has := range map[api.DeedKind]string{
		api.DeedRead: "AB", api.DeedWrite: "AT", api.DeedZero: "AB", api.DeedDiscard: "AB", api.DeedResize: "N", api.DeedSnap: "T",
		api.DeedDelete: "N", api.DeedRevert: "N", api.DeedOld: "ABN", api.DeedFlush: "", api.DeedFuse: "N", api.DeedCrash: "A",
		api.DeedErase: "N", api.DeedGarble: "ABN", api.DeedScrub: "", api.DeedCompact: "", api.DeedRebuild: "", api.DeedCheck: "",
	} {
		for _, more := range []string{"A", "B", "N", "T"} {
			if strings.Contains(has, more) {
				continue
			}
			d := api.Deed{Kind: kind}
			switch more {
			case "A":
				d.A = 1
			case "B":
				d.B = 1
			case "N":
				d.N = 1
			case "T":
				d.Text = "a"
			}
			l = append(l, d)
		}
	}
	return l
}

// unlike are words that are no number.
func unlike() []string {
	return []string{
		"", "-", "-1", "-0", "+0", "+1", "00", "01", "007", "0x1", "1.", "1e3", "1_0", "a", " 1", "1 ", "\t1", "1\n", "1\x00", "١",
		"1099511627777", "01099511627776", "9223372036854775807", "9223372036854775808", "18446744073709551616", "99999999999999999999999999",
		strings.Repeat("0", 1000), strings.Repeat("9", 1000),
	}
}

// wrongTexts are words that are no text.
func wrongTexts() []string {
	return []string{
		"", "0", "000", "0g", "g0", "AB", "aB", "Ab", "0x", "--", "-0", "0-", "a ", " a", "ab ", "é", "61 62", "/0", ":0", "`0", "0@", "00\n",
		strings.Repeat("00", api.MaxLine+1), strings.Repeat("0", 2*api.MaxLine+1), strings.Repeat("0", 2*api.MaxLine-1), "-" + strings.Repeat("0", 2*api.MaxLine-1),
	}
}

// is ends a test, if what a call answered is another error.
func is(t *testing.T, say string, got, want api.Errno) {
	t.Helper()
	if got != want {
		t.Fatalf("%s = %d, not %d", say, got, want)
	}
}

// brief is x as text, not more of it than can be read.
func brief(x any) string {
	s := fmt.Sprintf("%+v", x)
	return s[:min(len(s), 200)]
}

// draw is a row of numbers that look like chance, and are always the same.
func draw(seed uint64) func(n int) int {
	return func(n int) int {
		seed = seed*6364136223846793005 + 1442695040888963407
		return int(seed>>33) % n
	}
}

// written ends a test, if the text of a script is another one, or the script is not read from it.
func written(t *testing.T, c api.Setup, deeds []api.Deed, want string) {
	t.Helper()
	if text, err := script.Put(c, deeds...); text != want || err != api.OK {
		t.Fatalf("Put = %.200q, %d, not %.200q", text, err, want)
	}
	back, l, line, err := script.Get(want)
	if back != c || !slices.Equal(l, deeds) || line != 0 || err != api.OK {
		t.Fatalf("Get(%.200q) = %v, %s, %d, %d", want, back, brief(l), line, err)
	}
}

// unwritten ends a test, if a script may be told, or may not for another reason.
func unwritten(t *testing.T, c api.Setup, deeds []api.Deed, want api.Errno) {
	t.Helper()
	if text, err := script.Put(c, deeds...); text != "" || err != want {
		t.Fatalf("Put(%v, %s) = %.200q, %d, not %d", c, brief(deeds), text, err, want)
	}
}

// unread ends a test, if a text is a script's, or another line is the first wrong one.
func unread(t *testing.T, text string, line int, want api.Errno) {
	t.Helper()
	c, l, at, err := script.Get(text)
	if c != (api.Setup{}) || len(l) != 0 || at != line || err != want {
		t.Fatalf("Get(%.200q) = %v, %s, %d, %d, not %d, %d", text, c, brief(l), at, err, line, want)
	}
}
