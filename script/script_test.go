package script_test

import (
	"slices"
	"strconv"
	"strings"
	"testing"

	"caulk/api"
	"caulk/script"
)

// whole is a script of all kinds, and its text.
func whole() (api.Setup, []api.Deed, string) {
	c, first := setups()
	deeds, lines := told()
	return c[1], deeds, first[1] + "\n" + strings.Join(lines, "\n") + "\n"
}

func TestPut(t *testing.T) { // 27.1, 27.3
	deeds, lines := told()
	c, first := setups()
	for i, x := range c {
		written(t, x, nil, first[i]+"\n")
		for j, d := range deeds {
			written(t, x, []api.Deed{d}, first[i]+"\n"+lines[j]+"\n")
			written(t, x, []api.Deed{d, deeds[0], d}, first[i]+"\n"+lines[j]+"\n"+lines[0]+"\n"+lines[j]+"\n")
		}
	}
	x, deeds, text := whole()
	written(t, x, deeds, text)
	slices.Reverse(deeds)
	slices.Reverse(lines)
	written(t, x, deeds, first[1]+"\n"+strings.Join(lines, "\n")+"\n")
}

// mutes are setups that may not be told.
func mutes() []api.Setup {
	var l []api.Setup
	for _, n := range numbers() {
		var c [5]api.Setup
		c[0].Geom.Shift, c[1].Geom.K, c[2].Geom.M, c[3].Geom.Clusters, c[4].Blocks = n, n, n, n, n
		l = append(l, c[:]...)
	}
	return l
}

func TestPutWrong(t *testing.T) { // 27.1: ErrForm
	c, deeds, _ := whole()
	for _, x := range mutes() {
		unwritten(t, x, nil, api.ErrForm)
		unwritten(t, x, deeds, api.ErrForm)
	}
	for _, d := range untold() {
		unwritten(t, c, []api.Deed{d}, api.ErrForm)
	}
	for i := range deeds {
		l := slices.Clone(deeds)
		l[i].Kind = api.DeedNone
		unwritten(t, c, l, api.ErrForm)
	}
}

// many is so many deeds, and their lines.
func many(n int) ([]api.Deed, string) {
	deeds := make([]api.Deed, n)
	var lines strings.Builder
	for i := range deeds {
		deeds[i] = api.Deed{Kind: api.DeedFuse, N: i}
		lines.WriteString("fuse " + strconv.Itoa(i) + "\n")
	}
	return deeds, lines.String()
}

func TestLong(t *testing.T) { // 27.1: MaxDeeds
	c, first := setups()
	for _, n := range []int{api.MaxDeeds - 1, api.MaxDeeds} {
		deeds, lines := many(n)
		written(t, c[1], deeds, first[1]+"\n"+lines)
	}
	for _, n := range []int{api.MaxDeeds + 1, api.MaxDeeds + 2, 2 * api.MaxDeeds} {
		deeds, lines := many(n)
		unwritten(t, c[1], deeds, api.ErrLong)
		unread(t, first[1]+"\n"+lines, api.MaxDeeds+2, api.ErrLong)
		unread(t, first[1]+"\n"+lines+"wrong\n", api.MaxDeeds+2, api.ErrLong)
		unread(t, "wrong\n"+lines, 1, api.ErrCode)
		deeds[0].A = 1 // ErrLong is ahead of ErrForm
		unwritten(t, c[1], deeds, api.ErrLong)
		unwritten(t, mutes()[0], deeds, api.ErrLong)
	}
	_, lines := many(api.MaxDeeds)
	for _, wrong := range []string{"\n", "x\n", "flush", "flush \n", "fuse\n", first[1] + "\n", "fuse 0 0\n"} {
		unread(t, first[1]+"\n"+lines+wrong, api.MaxDeeds+2, api.ErrCode) // it is no deed's line
	}
}

func TestGetWrong(t *testing.T) { // 27.1: which line is the first wrong one
	_, _, text := whole()
	l := strings.SplitAfter(text, "\n")
	l = l[:len(l)-1]
	wrong := []string{"", "\n", "x\n", " \n", "\r\n", "none\n", "read 1\n", "read 1 2 3\n", "read 1 x\n", "write 0 ABCD\n", "read -1 0\n", "flush\r\n", "#\n", l[0]}
	for i := range l {
		for _, x := range wrong {
			if x == "" || i == 0 && x == l[0] {
				continue
			}
			with := slices.Clone(l)
			with[i] = x
			unread(t, strings.Join(with, ""), i+1, api.ErrCode)
			with[len(l)-1] = "wrong\n" // behind it, or the same
			unread(t, strings.Join(with, ""), i+1, api.ErrCode)
			unread(t, strings.Join(slices.Insert(slices.Clone(l), i, x), ""), i+1, api.ErrCode)
		}
		unread(t, strings.TrimSuffix(strings.Join(l[:i+1], ""), "\n"), i+1, api.ErrCode) // without a line feed
	}
	unread(t, text+"\n", len(l)+1, api.ErrCode)
	unread(t, text+"x", len(l)+1, api.ErrCode)
	unread(t, text+" ", len(l)+1, api.ErrCode)
}

func TestGetSetup(t *testing.T) { // 27.1: the first line is the setup's
	unread(t, "", 1, api.ErrCode)
	for _, wrong := range []string{
		"", " ", "image", "image ", "image 0", "image 0 0 0 0", "image 0 0 0 0 ", "image 0 0 0 0 0 ", " image 0 0 0 0 0", "image 0 0 0 0 0 0", "image  0 0 0 0 0",
		"Image 0 0 0 0 0", "images 0 0 0 0 0", "imag 0 0 0 0 0", "0 0 0 0 0", "image, 0, 0, 0, 0, 0", "image\t0 0 0 0 0", "read 0 0", "flush", "image 0 0 0 0 0\r",
	} {
		for _, behind := range []string{"", "\n", "\nflush\n", "\nimage 0 0 0 0 0\n", "\n\n", "\nx"} {
			unread(t, wrong+behind, 1, api.ErrCode)
		}
	}
	for i := range 5 {
		for _, word := range unlike() {
			l := strings.Split("0 1 2 3 4", " ")
			l[i] = strings.ReplaceAll(word, "\n", "\v")
			unread(t, "image "+strings.Join(l, " ")+"\nflush\n", 1, api.ErrCode)
		}
	}
	unread(t, "image 0 0 0 0 0", 1, api.ErrCode) // without a line feed
	unread(t, "image 0 0 0 0 0\n\n", 2, api.ErrCode)
	unread(t, "image 0 0 0 0 0\nimage 0 0 0 0 0\n", 2, api.ErrCode)
	unread(t, "image 0 0 0 0 0\nflush", 2, api.ErrCode)
	unread(t, "image 0 0 0 0 0\nflush\nflush", 3, api.ErrCode)
}

// some is a deed that may be told, by chance.
func some(below func(int) int) api.Deed {
	deeds, _ := told()
	d := deeds[below(len(deeds))]
	number := func(n int64) int64 {
		if n == 0 {
			return 0
		}
		return int64(below(1<<31)) * int64(below(512))
	}
	d.A, d.B, d.N = number(d.A), number(d.B), int(number(int64(d.N)))
	if d.Text != "" {
		text := make([]byte, below(100))
		for i := range text {
			text[i] = byte(below(256))
		}
		d.Text = string(text)
	}
	return d
}

func TestThereAndBack(t *testing.T) { // 27.3: by chance
	below := draw(27)
	for range 200 {
		c := api.Setup{Geom: api.Geom{Shift: below(1 << 30), K: below(300), M: below(300), Clusters: below(5000)}, Blocks: below(1 << 30)}
		var deeds []api.Deed
		for range below(30) {
			deeds = append(deeds, some(below))
		}
		text, err := script.Put(c, deeds...)
		is(t, "Put", err, api.OK)
		written(t, c, deeds, text)
		lines := strings.Split(text, "\n")
		for i, d := range deeds {
			if line, err := script.Line(d); line != lines[i+1] || err != api.OK {
				t.Fatalf("Line = %.100q, %d, not %.100q", line, err, lines[i+1])
			}
		}
	}
}

func TestNearText(t *testing.T) { // 27.3: what is read, however odd the text, has that text
	_, _, text := whole()
	text = text[:300]
	good, below := 0, draw(3)
	for range 20000 {
		b := []byte(text[:strings.LastIndex(text[:below(len(text))+1], "\n")+1])
		for range below(3) {
			if len(b) > 0 {
				b[below(len(b))] = " \n-0123456789abcdefimagereadwritezero"[below(37)]
			}
		}
		c, deeds, line, err := script.Get(string(b))
		if err != api.OK {
			unread(t, string(b), line, api.ErrCode)
			if line < 1 || line > strings.Count(string(b), "\n")+1 {
				t.Fatalf("Get(%q): the line %d", b, line)
			}
			continue
		}
		good++
		written(t, c, deeds, string(b))
	}
	if good < 1000 {
		t.Errorf("%d are read", good)
	}
}

func TestMemory(t *testing.T) { // 27.2: answers are new memory, and what is handed in stays
	c, deeds, text := whole()
	was := slices.Clone(deeds)
	_, err := script.Put(c, deeds...)
	is(t, "Put", err, api.OK)
	if !slices.Equal(deeds, was) {
		t.Errorf("the deeds that were handed in are others")
	}
	_, a, _, err := script.Get(text)
	is(t, "Get", err, api.OK)
	_, b, _, err := script.Get(text)
	is(t, "Get", err, api.OK)
	for i := range a {
		a[i] = api.Deed{}
	}
	if !slices.Equal(b, was) {
		t.Errorf("two lists of deeds share their memory")
	}
}
