package image

import (
	"cmp"
	"slices"
	"strings"

	"caulk/api"
	"caulk/chart"
	"caulk/cluster"
	"caulk/pool"
	"caulk/span"
	"caulk/state"
	"caulk/stripe"
)

// Read is n bytes of the map of now, from off on.
func (m *Image) Read(off, n int64) (string, api.Errno) {
	if m.Broken() {
		return "", api.ErrDown
	}
	return m.read(m.state.Now, off, n)
}

// ReadSnap is n bytes of the snapshot id, from off on; ErrNone, if there is none.
func (m *Image) ReadSnap(id int, off, n int64) (string, api.Errno) {
	if m.Broken() {
		return "", api.ErrDown
	}
	i := m.snap(id)
	if i < 0 {
		return "", api.ErrNone
	}
	return m.read(m.state.Snaps[i].Chart, off, n)
}

// Write has s stand from off on.
func (m *Image) Write(off int64, s string) api.Errno {
	rest := s
	return m.change(off, int64(len(s)), func(p *pool.Pool, x api.Span) (api.Entry, api.Errno) {
		part := rest[:x.To-x.From] // spans come in order, and have all of s
		rest = rest[len(part):]
		return m.over(p, x, part)
	})
}

// Zero has n bytes 00 stand from off on. Blocks of which nothing is left are holes.
func (m *Image) Zero(off, n int64) api.Errno {
	return m.change(off, n, func(p *pool.Pool, x api.Span) (api.Entry, api.Errno) {
		if m.isWhole(x) {
			return api.Entry{}, api.OK
		}
		return m.over(p, x, strings.Repeat("\x00", x.To-x.From))
	})
}

// Discard makes holes of the blocks that lie as a whole within n bytes from off on.
func (m *Image) Discard(off, n int64) api.Errno {
	if m.Broken() {
		return api.ErrDown
	}
	defer m.tidy()
	if _, err := m.cut(m.state.Now, off, n); err != api.OK {
		return err
	}
	r, err := span.Whole(m.block(), off, n)
	if err != api.OK {
		return err
	}
	m.state.Now = lay(m.fan(), m.state.Now, r.From, make([]api.Entry, r.To-r.From))
	return api.OK
}

// cut is the spans of n bytes of the map c from off on; ErrRange, if it has no such bytes.
func (m *Image) cut(c api.Chart, off, n int64) ([]api.Span, api.Errno) {
	l, err := span.Cut(m.block(), off, n)
	if err != api.OK {
		return nil, err
	}
	if off+n > m.wide(c) {
		return nil, api.ErrRange
	}
	return l, api.OK
}

// isWhole tells whether x is all of its block.
func (m *Image) isWhole(x api.Span) bool {
	return x.To-x.From == m.block()
}

// read is n bytes of the map c from off on.
func (m *Image) read(c api.Chart, off, n int64) (string, api.Errno) {
	l, err := m.cut(c, off, n)
	if err != api.OK {
		return "", err
	}
	blocks, entries, err := chart.All(m.fan(), c) // once for all spans: each call of chart looks at the whole map
	if err != api.OK {
		return "", err
	}
	parts := make([]string, len(l))
	for i, x := range l {
		var e api.Entry // a hole
		if at, there := slices.BinarySearch(blocks, x.Block); there {
			e = entries[at]
		}
		s, err := m.text(e)
		if err != api.OK {
			return "", err
		}
		parts[i] = s[x.From:x.To]
	}
	return span.Join(m.block(), l, parts)
}

// text is the bytes of a block whose entry is e.
func (m *Image) text(e api.Entry) (string, api.Errno) {
	switch e.Kind {
	case api.EntryDisk:
		return m.disk(e.Place)
	case api.EntryFresh:
		return m.pool.Get(e.Fresh)
	}
	return strings.Repeat("\x00", m.block()), api.OK
}

// disk is the bytes of the member p. If the device is down, the image is broken.
func (m *Image) disk(p api.Place) (string, api.Errno) {
	s, err := m.fetch(p)
	if err == api.ErrDown {
		m.broken = true
	}
	return s, err
}

// fetch is the bytes of the member p. If these came back by parity, they are written to its cluster, too.
func (m *Image) fetch(p api.Place) (string, api.Errno) {
	x, err := state.Stripe(m.state, p.Stripe)
	if err != api.OK {
		return "", err
	}
	s, good, err := stripe.Fetch(m.d, m.super.Geom, x, p.Member)
	if err != api.OK || good {
		return s, err
	}
	if cluster.Write(m.d, m.super.Geom, x.At[p.Member], s) == api.ErrDown {
		return "", api.ErrDown
	}
	return s, api.OK
}

// change has, of n bytes from off on, each block's entry be what entry tells of its span. What it adds to a pool is there only if all of it may be.
func (m *Image) change(off, n int64, entry func(*pool.Pool, api.Span) (api.Entry, api.Errno)) api.Errno {
	if m.Broken() {
		return api.ErrDown
	}
	defer m.tidy()
	l, err := m.cut(m.state.Now, off, n)
	if err != api.OK || len(l) == 0 {
		return err
	}
	p := m.pool.Clone()
	entries := make([]api.Entry, len(l))
	for i, x := range l {
		entries[i], err = entry(p, x)
		if err != api.OK {
			return err
		}
	}
	m.pool = p
	m.state.Now = lay(m.fan(), m.state.Now, l[0].Block, entries)
	return api.OK
}

// over is the entry, fresh in p, of the block of x with part laid over that span.
func (m *Image) over(p *pool.Pool, x api.Span, part string) (api.Entry, api.Errno) {
	if m.isWhole(x) {
		return fresh(p, part)
	}
	wide := int64(m.block())
	was, err := m.read(m.state.Now, int64(x.Block)*wide, wide)
	if err != api.OK {
		return api.Entry{}, err
	}
	s, err := span.Over(was, x, part)
	if err != api.OK {
		return api.Entry{}, err
	}
	return fresh(p, s)
}

// fresh is the entry of s, which is added to p.
func fresh(p *pool.Pool, s string) (api.Entry, api.Errno) {
	id, err := p.Add(s)
	if err != api.OK {
		return api.Entry{}, err
	}
	return api.Entry{Kind: api.EntryFresh, Fresh: id}, api.OK
}

// lay is c, whose tables have e entries, with l as the entries of the blocks from first on. It spends c: entries are set where they stand, as chart.Set would copy the whole map for each block.
func lay(e int, c api.Chart, first int, l []api.Entry) api.Chart {
	for i, x := range l {
		b := first + i
		at, there := slices.BinarySearchFunc(c.Tables, b/e, func(t api.Table, part int) int {
			return cmp.Compare(t.At, part)
		})
		if !there {
			c.Tables = slices.Insert(c.Tables, at, api.Table{At: b / e, L: make([]api.Entry, e)})
		}
		c.Tables[at].L[b%e] = x
	}
	c.Tables = slices.DeleteFunc(c.Tables, func(t api.Table) bool {
		return !slices.ContainsFunc(t.L, func(x api.Entry) bool { return x.Kind != api.EntryHole })
	})
	return c
}
