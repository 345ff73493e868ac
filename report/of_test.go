package report_test

import (
	"strconv"
	"strings"
	"sync"
	"testing"

	"caulk/api"
	"caulk/report"
	"caulk/script"
	"caulk/world"
)

func TestOf(t *testing.T) { // 29.1: by hand
	reports(t, play(small), "")
	reports(t, play(small, "write 0 313233343536373839", "read 0 9", "read 0 10", "flush"), "0 0 0 0\n0 0 9 3808858755\n"+line(0, 0, 10, sum("123456789\x00"))+"0 0 0 0\n")
	reports(t, play(small, "snap 61", "snap 62", "snap 61", "snap -"), "0 0 0 0\n0 1 0 0\n4 0 0 0\n2 0 0 0\n") // the numbers 0 and 1, ErrTwice, ErrForm
	reports(t, play(small, "check", "erase 1", "check", "scrub", "check", "scrub"), "0 1 0 0\n"+"0 0 0 0\n"+"0 0 0 0\nslot 1 0 1 open\n"+"0 0 0 0\nslot 1 0 1 healed\n"+"0 1 0 0\n"+"0 0 0 0\n")
	reports(t, play(small, "read 51200 1", "resize 65537", "delete 3", "old 0 0 1"), "1 0 0 0\n1 0 0 0\n3 0 0 0\n3 0 0 0\n")
	reports(t, play(small, "fuse 0", "write 0 61", "flush", "read 0 1", "check"), "0 0 0 0\n0 0 0 0\n12 0 0 0\n12 0 0 0\n12 0 0 0\n")
	reports(t, play(small, "erase 0", "erase 1", "crash 0", "read 0 1", "rebuild", "compact"), "0 0 0 0\n0 0 0 0\n3 0 0 0\n3 0 0 0\n3 0 0 0\n3 0 0 0\n")
}

func TestOfLost(t *testing.T) { // 29.1: what is lost is told behind the wounds
	bare := "image 0 3 0 120 10"
	text := play(bare, "write 0 61", "snap 78", "flush", "check")
	reports(t, text, "0 0 0 0\n0 0 0 0\n0 0 0 0\n0 1 0 0\n")
	_, deeds, _, _ := script.Get(text)
	w, err := world.New(api.Setup{Geom: api.Geom{K: 3, Clusters: 120}, Blocks: 10})
	if err != api.OK {
		t.Fatal(err)
	}
	for _, d := range deeds {
		w.Do(d)
	}
	at := strconv.Itoa(w.Image().State().Stripes[0].At[0])
	lost := "stripe 0 0 " + at + " open\nlost now 0 1\nlost 0 0 1\n"
	reports(t, text+play("erase "+at, "check", "read 0 1", "read 1 511", "rebuild", "read 0 1"),
		"0 0 0 0\n0 0 0 0\n0 0 0 0\n0 1 0 0\n"+"0 0 0 0\n"+"0 0 0 0\n"+lost+"10 0 0 0\n10 0 0 0\n"+"0 0 0 0\n"+lost+line(0, 0, 1, sum("\x00")))
}

func TestOfNoScript(t *testing.T) { // 29.1: script, and which line
	for _, x := range []struct {
		text string
		at   int
	}{
		{"", 1}, {"\n", 1}, {small, 1}, {"image 0 2 1 200\n", 1}, {"flush\n", 1}, {"setup 0 2 1 200 100\n", 1}, {"image 0 2 1 200 01\n", 1},
		{play(small, ""), 2}, {play(small, "flush 1"), 2}, {play(small, "flush", "x", "y"), 3}, {play(small, "flush") + "flush", 3}, {play(small, "write 0 6"), 2},
		{play("image 9 9 9 9 9", "x"), 2}, // ahead of the setup's error
		{play(small) + strings.Repeat("flush\n", 999) + "wrong\n", 1001},
		{play(small) + strings.Repeat("fuse 1\n", api.MaxDeeds+1), api.MaxDeeds + 2}, // ErrLong
		{play(small) + strings.Repeat("fuse 1\n", 2*api.MaxDeeds), api.MaxDeeds + 2},
		{play(small) + strings.Repeat("fuse 1\n", api.MaxDeeds) + "wrong\n", api.MaxDeeds + 2},
	} {
		reports(t, x.text, "script "+strconv.Itoa(x.at)+"\n")
	}
	reports(t, play(small)+strings.Repeat("fuse 1\n", api.MaxDeeds), strings.Repeat("0 0 0 0\n", api.MaxDeeds))
}

func TestOfNoWorld(t *testing.T) { // 29.1: setup, and world.New's error
	for _, x := range []struct {
		setup string
		err   int
	}{
		{"image 0 0 0 0 0", 2}, {"image 8 2 1 200 100", 2}, {"image 0 0 1 200 100", 2}, {"image 0 200 56 2000 100", 2}, {"image 0 2 1 3 100", 2}, {"image 0 2 1 4097 100", 2},
		{"image 7 2 1 257 100", 2}, {"image 0 0 0 0 1099511627776", 2}, {"image 0 2 1 200 65537", 1}, {"image 0 2 1 200 1099511627776", 1}, {"image 1099511627776 2 1 200 100", 2},
	} {
		for _, deeds := range []string{"", "flush\n", "read 0 1\ncheck\nrebuild\n"} {
			reports(t, x.setup+"\n"+deeds, "setup "+strconv.Itoa(x.err)+"\n")
		}
	}
	reports(t, play("image 0 2 1 4 0", "read 0 0"), "0 0 0 0\n") // the least clusters, and no blocks: a root page is all
	reports(t, play("image 0 2 1 200 65536", "read 33553920 512"), line(0, 0, 512, sum(strings.Repeat("\x00", 512))))
}

// holed are lines by which every other one of 2n blocks is written, each with a stripe's member of its own, and committed with so many snapshots.
func holed(n, snaps int) []string {
	var l []string
	for i := range n {
		l = append(l, "write "+strconv.Itoa(1024*i)+" 61")
	}
	for i := range snaps {
		l = append(l, "snap 61"+strconv.FormatInt(int64(i+16), 16))
	}
	return append(l, "flush")
}

func TestOfNoLine(t *testing.T) { // 29.1: of a deed whose report has too many lines there is none
	const n, snaps = 1000, 16 // with all members lost: 1000 wounds, and 17000 lost ranges
	setup := "image 0 100 0 4096 2000"
	ahead := holed(n, snaps)
	_, deeds, _, err := script.Get(play(append([]string{setup}, ahead...)...))
	w, werr := world.New(api.Setup{Geom: api.Geom{K: 100, Clusters: 4096}, Blocks: 2000})
	if err != api.OK || werr != api.OK {
		t.Fatal(err, werr)
	}
	for _, d := range deeds {
		w.Do(d)
	}
	var erased []string
	for _, s := range w.Image().State().Stripes {
		for _, at := range s.At {
			erased = append(erased, "erase "+strconv.Itoa(at))
		}
	}
	if len(erased) != n {
		t.Fatalf("%d members, not %d", len(erased), n)
	}
	got := report.Of(play(setup) + play(ahead...) + play(erased...) + play("check", "read 0 1", "snap 7a", "scrub", "read 512 3"))
	want := strings.Repeat("0 0 0 0\n", n)
	for i := range snaps {
		want += line(0, i, 0, 0)
	}
	want += strings.Repeat("0 0 0 0\n", 1+n) + "10 0 0 0\n" + line(0, snaps, 0, 0) + line(0, 0, 3, sum("\x00\x00\x00")) // none of the check, none of the scrub
	if got != want {
		t.Fatalf("Of ends with %q, not %q", got[max(0, len(got)-300):], want[len(want)-300:])
	}
}

// deed is the line of a deed that is drawn.
func deed(next func(int) int) string {
	at, n := strconv.Itoa(next(20*512)), strconv.Itoa(next(3000))
	k := strconv.Itoa(next(3))
	return []string{
		"read " + at + " " + n, "read 0 10240", "write " + at + " " + strings.Repeat("6162", next(900)+1), "write " + strconv.Itoa(512*next(15)) + " " + strings.Repeat("7a", 1024),
		"zero " + at + " " + n, "discard " + at + " " + n, "resize " + strconv.Itoa(15+next(10)), "snap 6" + k, "delete " + k, "revert " + k, "old " + k + " " + at + " " + n,
		"flush", "flush", "flush", "fuse " + strconv.Itoa(next(60)), "crash " + strconv.Itoa(next(1<<30)), "crash 0", "erase " + strconv.Itoa(next(120)),
		"garble " + strconv.Itoa(next(120)) + " " + n + " " + strconv.Itoa(next(1<<30)), "scrub", "compact", "rebuild", "check",
	}[next(23)]
}

// plays are scripts that are drawn, as lists of lines.
func plays(n int) [][]string {
	var all [][]string
	for i := range n {
		next := draw(uint64(i))
		l := []string{"image " + strconv.Itoa(i%2) + " " + strconv.Itoa(1+i%4) + " " + strconv.Itoa(i%3) + " 120 20"}
		for range 40 {
			l = append(l, deed(next))
		}
		all = append(all, l)
	}
	return all
}

func TestOfByHand(t *testing.T) { // 29.1: each deed's lines, one behind the other
	for _, l := range plays(60) {
		setup, deeds, _, err := script.Get(play(l...))
		if err != api.OK {
			t.Fatal(err)
		}
		w, err := world.New(setup)
		if err != api.OK {
			t.Fatal(err)
		}
		var want strings.Builder
		for _, d := range deeds {
			told, err := report.Line(w.Do(d))
			if err != api.OK {
				t.Fatal(err)
			}
			want.WriteString(told)
		}
		reports(t, play(l...), want.String())
	}
}

func TestTextAlone(t *testing.T) { // 29.2: a script that begins with another one's deeds, and a script that is played again
	for _, l := range plays(30) {
		whole, was := report.Of(play(l...)), ""
		for n := 1; n <= len(l); n++ {
			part := report.Of(play(l[:n]...))
			if !strings.HasPrefix(part, was) || n > 1 && len(part) == len(was) {
				t.Fatalf("of %d deeds: %s, behind %s", n-1, brief(part), brief(was))
			}
			was = part
		}
		if was != whole {
			t.Fatalf("played again: %s, not %s", brief(was), brief(whole))
		}
	}
}

func TestTogether(t *testing.T) { // 29.2: scripts that are played at the same time
	l := plays(16)
	var first, again [16]string
	for i := range l {
		first[i] = report.Of(play(l[i]...))
	}
	var all sync.WaitGroup
	for i := range l {
		all.Go(func() { again[i] = report.Of(play(l[i]...)) })
	}
	all.Wait()
	if first != again {
		t.Error("a report hangs on another script's")
	}
}
