package pool

import (
	"slices"
	"strings"
	"testing"

	"caulk/api"
)

// full is a pool to which all but n of the data that may be added were added, and are gone. (So many can't be added in a test.)
func full(n int) *Pool {
	p := New()
	p.last = api.MaxFresh - n
	return p
}

func TestFull(t *testing.T) { // 17.1, 17.2: MaxFresh may be added, and no more, whatever went
	long := strings.Repeat("l", api.MaxPiece+1)
	p := full(2)
	for i, s := range []string{"last but one", "last"} {
		if id, err := p.Add(s); id != api.MaxFresh-1+i || err != api.OK {
			t.Errorf("Add = %d, %d", id, err)
		}
	}
	for _, q := range []*Pool{p, p.Clone()} {
		for range 3 {
			if id, err := q.Add("one more"); id != 0 || err != api.ErrFull {
				t.Errorf("Add to a full one = %d, %d", id, err)
			}
			if id, err := q.Add(long); id != 0 || err != api.ErrLong {
				t.Errorf("Add to a full one of what is too long = %d, %d", id, err)
			}
		}
		if s, err := q.Get(api.MaxFresh); s != "last" || err != api.OK || q.Bytes() != 16 {
			t.Errorf("Get = %q, %d, of %d bytes", s, err, q.Bytes())
		}
		if got := q.Ids(); !slices.Equal(got, []int{api.MaxFresh - 1, api.MaxFresh}) {
			t.Errorf("Ids = %v", got)
		}
		if n := q.Keep(); n != 2 {
			t.Errorf("Keep = %d", n)
		}
		if id, err := q.Add(""); id != 0 || err != api.ErrFull {
			t.Errorf("Add to a full one of which all went = %d, %d", id, err)
		}
	}
}
