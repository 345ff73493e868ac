package report_test

import (
	"math"
	"slices"
	"strings"
	"testing"

	"caulk/api"
	"caulk/damage"
	"caulk/report"
)

func TestLine(t *testing.T) { // 29.1
	tells(t, api.Told{}, "0 0 0 0\n")
	tells(t, api.Told{Text: "123456789"}, "0 0 9 3808858755\n") // e3069283
	tells(t, api.Told{Err: api.ErrDamaged}, "10 0 0 0\n")
	tells(t, api.Told{N: 7}, "0 7 0 0\n")
	tells(t, api.Told{Err: api.ErrZero, N: math.MaxInt, Text: "123456789"}, "13 9223372036854775807 9 3808858755\n")
	tells(t, api.Told{Err: -3, Text: "\x00"}, "-3 0 1 1383945041\n") // 527d5351
	for err := api.OK; err <= api.ErrZero; err++ {
		for _, text := range []string{"", "\x00", "\xff", "a b\n", "é\r\n", strings.Repeat("\x00", 32), strings.Repeat("\xff", 32), strings.Repeat("long", 9999)} {
			for _, n := range []int{0, 1, 9, 10, 64, 1 << 32, math.MaxInt} {
				tells(t, api.Told{Err: err, N: n, Text: text}, line(err, n, len(text), sum(text)))
			}
		}
	}
	long := strings.Repeat("0123456789abcdef", api.MaxRead/16)
	tells(t, api.Told{Text: long}, line(0, 0, api.MaxRead, sum(long)))
}

func TestLineReport(t *testing.T) { // 29.1: the report's text, as it stands
	r := api.Report{
		Wounds: []api.Wound{
			{Kind: api.WoundStripe, Id: 5, Index: 1, At: 7},
			{Kind: api.WoundSlot, Id: 1, At: 1, Healed: true},
			{Kind: api.WoundPage, Id: 3, Index: 1, At: api.MaxId},
			{Kind: api.WoundStripe, Id: 5, Index: 1, At: 7},
		},
		Lost: []api.Lost{{Chart: 4, Blocks: api.Range{To: api.MaxBlocks}}, {Chart: -1, Blocks: api.Range{From: 3, To: 5}}},
	}
	wounds := "stripe 5 1 7 open\nslot 1 0 1 healed\npage 3 1 2147483648 open\nstripe 5 1 7 open\n"
	lost := "lost 4 0 65536\nlost now 3 5\n"
	tells(t, api.Told{Report: r}, "0 0 0 0\n"+wounds+lost)
	tells(t, api.Told{Err: 9, N: 1, Text: "123456789", Report: r}, "9 1 9 3808858755\n"+wounds+lost)
	tells(t, api.Told{Report: api.Report{Wounds: r.Wounds}}, "0 0 0 0\n"+wounds)
	tells(t, api.Told{Report: api.Report{Lost: r.Lost}}, "0 0 0 0\n"+lost)
	if r.Wounds[0].Kind != api.WoundStripe || r.Lost[0].Chart != 4 {
		t.Error("what was handed in is changed")
	}
}

// many is a report of so many wounds, and so many lost ranges.
func many(wounds, lost int) api.Report {
	return api.Report{
		Wounds: slices.Repeat([]api.Wound{{Kind: api.WoundSlot}}, wounds),
		Lost:   slices.Repeat([]api.Lost{{Blocks: api.Range{To: 1}}}, lost),
	}
}

func TestLineLong(t *testing.T) { // 29.1: MaxLines of the report, the line ahead of them aside
	for _, wounds := range []int{0, 1, api.MaxLines / 2, api.MaxLines} {
		lost := api.MaxLines - wounds
		want := "1 2 0 0\n" + strings.Repeat("slot 0 0 0 open\n", wounds) + strings.Repeat("lost 0 0 1\n", lost)
		tells(t, api.Told{Err: 1, N: 2, Report: many(wounds, lost)}, want)
		fails(t, api.Told{Report: many(wounds, lost+1)}, api.ErrLong)
		fails(t, api.Told{N: -1, Report: many(wounds+1, lost)}, api.ErrLong) // ahead of ErrRange
	}
}

func TestLineWrong(t *testing.T) { // 29.1: damage.Text's error, and ErrRange behind it
	right := api.Report{Wounds: []api.Wound{{Kind: api.WoundSlot}}, Lost: []api.Lost{{Blocks: api.Range{To: 1}}}}
	for _, n := range []int{-1, -2, math.MinInt} {
		fails(t, api.Told{N: n}, api.ErrRange)
		fails(t, api.Told{N: n, Err: api.ErrBad, Text: "text", Report: right}, api.ErrRange)
	}
	for _, n := range []int{0, 1, -1, math.MinInt} {
		for _, w := range []api.Wound{
			{}, {Kind: api.WoundCount}, {Kind: math.MaxUint8}, {Kind: api.WoundSlot, Index: 1}, {Kind: api.WoundPage, Index: 2}, {Kind: api.WoundStripe, Id: -1},
			{Kind: api.WoundStripe, At: -1}, {Kind: api.WoundStripe, Index: api.MaxId + 1}, {Kind: api.WoundSlot, Id: math.MaxInt},
		} {
			fails(t, api.Told{N: n, Report: api.Report{Wounds: []api.Wound{right.Wounds[0], w}}}, api.ErrForm)
		}
		for _, l := range []api.Lost{
			{}, {Chart: -2, Blocks: api.Range{To: 1}}, {Chart: api.MaxId + 1, Blocks: api.Range{To: 1}}, {Blocks: api.Range{From: 1, To: 1}},
			{Blocks: api.Range{From: -1, To: 1}}, {Blocks: api.Range{To: api.MaxBlocks + 1}}, {Blocks: api.Range{From: math.MaxInt, To: math.MinInt}},
		} {
			fails(t, api.Told{N: n, Report: api.Report{Wounds: right.Wounds, Lost: []api.Lost{right.Lost[0], l}}}, api.ErrForm)
		}
	}
}

func TestLineChance(t *testing.T) { // 29.1: against damage.Text of reports by chance
	next := draw(1)
	for range 2000 {
		told := api.Told{Err: api.Errno(next(14)), N: next(3000) - 100, Text: strings.Repeat(string(rune(next(300))), next(40))}
		for range next(5) {
			told.Report.Wounds = append(told.Report.Wounds, api.Wound{Kind: api.WoundKind(1 + next(3)), Id: next(50), Index: next(2), At: next(99) - 1, Healed: next(2) == 1})
		}
		for range next(3) {
			told.Report.Lost = append(told.Report.Lost, api.Lost{Chart: next(5) - 1, Blocks: api.Range{From: next(20), To: 15 + next(20)}})
		}
		found, err := damage.Text(told.Report)
		if err == api.OK && told.N < 0 {
			err = api.ErrRange
		}
		if err != api.OK {
			fails(t, told, err)
			continue
		}
		want := line(told.Err, told.N, len(told.Text), sum(told.Text)) + found
		tells(t, told, want)
		if got, _ := report.Line(told); strings.Count(got, "\n") != 1+len(told.Report.Wounds)+len(told.Report.Lost) {
			t.Fatalf("Line = %s", brief(got))
		}
	}
}
