package report_test

import (
	"strconv"
	"strings"
	"testing"

	"caulk/api"
	"caulk/report"
)

// play is a script's text of these lines.
func play(l ...string) string {
	return strings.Join(l, "\n") + "\n"
}

// small is the setup's line of a geometry whose clusters are sectors.
const small = "image 0 2 1 200 100"

// line is a wanted line of these numbers.
func line(err api.Errno, n, many int, sum uint32) string {
	return strconv.Itoa(int(err)) + " " + strconv.Itoa(n) + " " + strconv.Itoa(many) + " " + strconv.FormatUint(uint64(sum), 10) + "\n"
}

// sum is the sum of s, bit by bit, as chapter 1 has it.
func sum(s string) uint32 {
	rest := ^uint32(0)
	for i := range len(s) {
		for bit := range 8 {
			turn := (rest^uint32(s[i])>>bit)&1 == 1
			rest >>= 1
			if turn {
				rest ^= 0x82f63b78
			}
		}
	}
	return ^rest
}

// brief is s, not more of it than can be read.
func brief(s string) string {
	return strconv.Quote(s[:min(len(s), 1000)])
}

// reports ends a test, if the report of a script is another one.
func reports(t *testing.T, text, want string) {
	t.Helper()
	if got := report.Of(text); got != want {
		t.Fatalf("Of(%s) = %s, not %s", brief(text), brief(got), brief(want))
	}
}

// tells ends a test, if the lines of what is told are others.
func tells(t *testing.T, told api.Told, want string) {
	t.Helper()
	if got, err := report.Line(told); got != want || err != api.OK {
		t.Fatalf("Line(%.200v) = %s, %d, not %s", told, brief(got), err, brief(want))
	}
}

// fails ends a test, if what is told has lines, or none for another reason.
func fails(t *testing.T, told api.Told, want api.Errno) {
	t.Helper()
	if got, err := report.Line(told); got != "" || err != want {
		t.Fatalf("Line(%.200v) = %s, %d, not %d", told, brief(got), err, want)
	}
}

// draw is a row of numbers that look like chance, and are always the same.
func draw(seed uint64) func(n int) int {
	return func(n int) int {
		seed = seed*6364136223846793005 + 1442695040888963407
		return int(seed>>33) % n
	}
}
