package script_test

import (
	"regexp"
	"strconv"
	"strings"
	"testing"

	"caulk/api"
	"caulk/script"
)

func TestLine(t *testing.T) { // 27.1, 27.3: each kind's line, there and back
	deeds, lines := told()
	seen := map[api.DeedKind]bool{}
	for i, d := range deeds {
		seen[d.Kind] = true
		if line, err := script.Line(d); line != lines[i] || err != api.OK {
			t.Errorf("Line(%s) = %.100q, %d, not %.100q", brief(d), line, err, lines[i])
		}
		if back, err := script.Parse(lines[i]); back != d || err != api.OK {
			t.Errorf("Parse(%.100q) = %s, %d", lines[i], brief(back), err)
		}
	}
	if len(seen) != int(api.DeedCount)-1 {
		t.Errorf("%d kinds are told", len(seen))
	}
}

func TestLineWrong(t *testing.T) { // 27.1: what may not be told
	for _, d := range untold() {
		if line, err := script.Line(d); line != "" || err != api.ErrForm {
			t.Errorf("Line(%s) = %.100q, %d", brief(d), line, err)
		}
	}
	if l := unasked(); len(l) != 51 {
		t.Errorf("%d deeds have what is not asked for", len(l))
	}
}

// noLine ends a test, if it is a deed's.
func noLine(t *testing.T, line string) {
	t.Helper()
	if d, err := script.Parse(line); d != (api.Deed{}) || err != api.ErrCode {
		t.Fatalf("Parse(%.100q) = %s, %d", line, brief(d), err)
	}
}

func TestParseWords(t *testing.T) { // 27.1: words that are missing, too many, other ones, and other blanks
	_, lines := told()
	for _, line := range lines {
		l := strings.Split(line, " ")
		for i := range l {
			noLine(t, strings.Join(append(append([]string{}, l[:i]...), l[i+1:]...), " ")) // without that one
		}
		for _, wrong := range []string{
			line + " ", " " + line, line + "\n", line + "\r", line + "\x00", line + " 0", line + " -", line + " x", line + "  ", strings.Repeat(line+" ", 3),
			strings.ToUpper(l[0]) + line[len(l[0]):], l[0] + "s" + line[len(l[0]):], l[0][1:] + line[len(l[0]):], "\ufeff" + line,
		} {
			noLine(t, wrong)
		}
		if len(l) > 1 {
			noLine(t, strings.Replace(line, " ", "  ", 1))
			noLine(t, strings.Replace(line, " ", "\t", 1))
			noLine(t, strings.ReplaceAll(line, " ", "\u00a0"))
			noLine(t, strings.ReplaceAll(line, " ", ""))
			noLine(t, strings.ReplaceAll(line, " ", ", "))
		}
	}
	for _, wrong := range []string{"", " ", "\n", "-", "0", "image 0 2 1 10 100", "none", "none 0 0", "count", "read", "#", strings.Repeat(" ", 1<<20), strings.Repeat("0", 1<<20)} {
		noLine(t, wrong)
	}
}

func TestParseParts(t *testing.T) { // 27.1: what is no number, and what is no text
	_, lines := told()
	for _, line := range lines {
		l := strings.Split(line, " ")
		for i := 1; i < len(l); i++ {
			wrong := unlike()
			if l[0] == "snap" || l[0] == "write" && i == 2 {
				wrong = wrongTexts()
			}
			was := l[i]
			for _, l[i] = range wrong {
				noLine(t, strings.Join(l, " "))
			}
			l[i] = was
		}
	}
}

// grammar is the lines, told another way.
func grammar() *regexp.Regexp {
	const n, text = ` (?:0|[1-9][0-9]*)`, ` (?:-|(?:[0-9a-f]{2})+)`
	return regexp.MustCompile(`\A(?:(?:read|zero|discard)` + n + n + `|write` + n + text + `|(?:resize|delete|revert|fuse|erase|crash)` + n +
		`|snap` + text + `|(?:old|garble)` + n + n + n + `|flush|scrub|compact|rebuild|check)\z`)
}

// small tells whether no word of s is a number that is too great.
func small(s string) bool {
	l := strings.Split(s, " ")
	switch l[0] {
	case "snap":
		return true
	case "write":
		l = l[:min(2, len(l))] // behind these there is a text
	}
	for _, word := range l[1:] {
		n, err := strconv.ParseInt(word, 10, 64)
		if err == nil && n > api.MaxBytes {
			return false
		}
	}
	return true
}

func TestParseNear(t *testing.T) { // 27.1, 27.3: of all texts that are nearly lines, those that are ones are read, and have these lines
	is, good := grammar(), 0
	near := func(s string) {
		d, err := script.Parse(s)
		if (err == api.OK) != (is.MatchString(s) && small(s)) {
			t.Fatalf("Parse(%q) = %v, %d", s, d, err)
		}
		if err != api.OK {
			noLine(t, s)
			return
		}
		good++
		if line, err := script.Line(d); line != s || err != api.OK {
			t.Fatalf("Line(%v) = %q, %d, not %q", d, line, err, s)
		}
	}
	_, lines := told()
	for _, line := range lines {
		if len(line) > 30 {
			continue
		}
		for i := range len(line) + 1 {
			for c := range 256 {
				near(line[:i] + string([]byte{byte(c)}) + line[i:])
				if i < len(line) {
					near(line[:i] + string([]byte{byte(c)}) + line[i+1:])
				}
			}
			if i < len(line) {
				near(line[:i] + line[i+1:])
				near(line[:i])
			}
		}
	}
	if good < 1000 {
		t.Errorf("%d are read", good)
	}
}

func TestNumbers(t *testing.T) { // 27, Words: from 0 to MaxBytes
	for _, n := range []int{0, 1, 9, 10, 99, 100, 1 << 31, 1<<31 + 1, api.MaxBytes - 1, api.MaxBytes, api.MaxBytes + 1} {
		d := api.Deed{Kind: api.DeedGarble, N: n, A: int64(n), B: int64(n)}
		word := " " + strconv.Itoa(n)
		line, err := script.Line(d)
		back, wrong := script.Parse("garble" + word + word + word)
		if n > api.MaxBytes {
			is(t, "Line", err, api.ErrForm)
			is(t, "Parse", wrong, api.ErrCode)
		} else if line != "garble"+word+word+word || err != api.OK || back != d || wrong != api.OK {
			t.Errorf("%d: Line = %q, %d, Parse = %v, %d", n, line, err, brief(back), wrong)
		}
	}
}

func TestTexts(t *testing.T) { // 27, Words: up to MaxLine bytes, two digits a byte
	for _, n := range []int{0, 1, 2, 3, 255, api.MaxLine - 1, api.MaxLine, api.MaxLine + 1} {
		d := api.Deed{Kind: api.DeedSnap, Text: strings.Repeat("k", n)}
		want := "snap " + strings.Repeat("6b", n)
		if n == 0 {
			want = "snap -"
		}
		line, err := script.Line(d)
		back, wrong := script.Parse(want)
		if n > api.MaxLine {
			is(t, "Line", err, api.ErrForm)
			is(t, "Parse", wrong, api.ErrCode)
		} else if line != want || err != api.OK || back != d || wrong != api.OK {
			t.Errorf("%d: Line = %.50q, %d, Parse = %s, %d", n, line, err, brief(back), wrong)
		}
	}
}
