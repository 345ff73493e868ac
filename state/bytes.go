package state

import (
	"iter"
	"strings"

	"caulk/api"
	"caulk/entry"
	"caulk/field"
	"caulk/geom"
)

const (
	wide  = 4 // bytes of a number
	short = 1 // bytes of how long a name is
	size  = 8 // bytes of an entry
)

// parts tells the bytes of s, that is settled: what it begins with, and then snapshot by snapshot, and stripe by stripe.
func parts(s api.State) iter.Seq[string] {
	return func(yield func(string) bool) {
		if !yield(numbers(s.NextStripe, s.NextSnap, len(s.Snaps), len(s.Stripes)) + chartBytes(s.Now)) {
			return
		}
		for _, x := range s.Snaps {
			if !yield(snapBytes(x)) {
				return
			}
		}
		for _, x := range s.Stripes {
			if !yield(stripeBytes(x)) {
				return
			}
		}
	}
}

// snapBytes is the bytes of a snapshot.
func snapBytes(x api.Snap) string {
	name, _ := field.Text(x.Name) // it is no error: of a right state no name is too long
	return numbers(x.Id) + name + chartBytes(x.Chart)
}

// chartBytes is the bytes of a map.
func chartBytes(c api.Chart) string {
	var all strings.Builder
	all.WriteString(numbers(c.Blocks, len(c.Tables)))
	for _, t := range c.Tables {
		entries, _ := entry.Table(t.L) // it is no error: of a settled state nothing is fresh
		all.WriteString(numbers(t.At))
		all.WriteString(entries)
	}
	return all.String()
}

// stripeBytes is the bytes of a stripe.
func stripeBytes(x api.Stripe) string {
	var all strings.Builder
	all.WriteString(numbers(x.Id))
	for i, at := range x.At {
		all.WriteString(numbers(at, int(x.Sums[i])))
	}
	return all.String()
}

// numbers is the bytes of numbers of a right state, none of which needs more room.
func numbers(l ...int) string {
	var all strings.Builder
	for _, n := range l {
		s, _ := field.Put(wide, uint64(n))
		all.WriteString(s)
	}
	return all.String()
}

// reader reads bytes from the first one on. When they are not as they must be, it is bad from there on, and nothing is left to be read.
type reader struct {
	rest string
	bad  bool
}

// state reads a state, that need not be right.
func (r *reader) state(g api.Geom) api.State {
	s := api.State{}
	s.NextStripe = r.number(wide)
	s.NextSnap = r.number(wide)
	snaps := r.number(wide)
	stripes := r.number(wide)
	e := geom.Entries(g)
	s.Now = r.chart(e)
	s.Snaps = list(r, snaps, func() api.Snap { return r.snap(e) })
	s.Stripes = list(r, stripes, func() api.Stripe { return r.stripe(g.K + g.M) })
	return s
}

// snap reads a snapshot whose map has tables of e entries.
func (r *reader) snap(e int) api.Snap {
	x := api.Snap{Id: r.number(wide)}
	x.Name = strings.Clone(r.take(r.number(short))) // a clone, as all of the bytes would be kept for its sake
	x.Chart = r.chart(e)
	return x
}

// chart reads a map that has tables of e entries.
func (r *reader) chart(e int) api.Chart {
	c := api.Chart{Blocks: r.number(wide)}
	c.Tables = list(r, r.number(wide), func() api.Table { return r.table(e) })
	return c
}

// table reads a table of e entries.
func (r *reader) table(e int) api.Table {
	t := api.Table{At: r.number(wide)}
	l, err := entry.ParseTable(r.take(e * size))
	if err != api.OK {
		r.fail()
	}
	t.L = l
	return t
}

// stripe reads a stripe of so many members.
func (r *reader) stripe(members int) api.Stripe {
	x := api.Stripe{Id: r.number(wide)}
	for range members {
		x.At = append(x.At, r.number(wide))
		x.Sums = append(x.Sums, uint32(r.number(wide)))
	}
	return x
}

// list is what n calls of read answer, one behind the other. It ends when the reader is bad, as n may be any number then.
func list[T any](r *reader, n int, read func() T) []T {
	var l []T
	for range n {
		l = append(l, read())
		if r.bad {
			return nil
		}
	}
	return l
}

// number reads a number of so many bytes.
func (r *reader) number(width int) int {
	n, err := field.Get(width, r.rest)
	if err != api.OK {
		r.fail()
		return 0
	}
	r.rest = r.rest[width:]
	return int(n)
}

// take reads n bytes.
func (r *reader) take(n int) string {
	if len(r.rest) < n {
		r.fail()
		return ""
	}
	s := r.rest[:n]
	r.rest = r.rest[n:]
	return s
}

// fail leaves nothing to be read.
func (r *reader) fail() {
	r.rest, r.bad = "", true
}
