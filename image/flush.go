package image

import (
	"caulk/api"
	"caulk/load"
	"caulk/plan"
	"caulk/refs"
)

// Flush commits all that there is, as the next generation. When that is cut off, the image is broken.
func (m *Image) Flush() api.Errno {
	if m.Broken() {
		return api.ErrDown
	}
	if m.super.Gen >= api.MaxGen {
		return api.ErrFull
	}
	defer m.tidy()
	g := m.super.Geom
	p, err := plan.Make(g, m.state, m.pool, m.use)
	if err != api.OK {
		return err
	}
	o, err := load.Commit(m.d, g, m.super.Gen+1, p)
	if err != api.OK {
		m.broken = true
		return err
	}
	m.opened = took(o)
	return api.OK
}

// Replace has fresh data of the same bytes stand for those of the members l to which some map refers, and answers how many these are.
func (m *Image) Replace(l []api.Place) (int, api.Errno) {
	if m.Broken() {
		return 0, api.ErrDown
	}
	list, err := refs.Count(m.fan(), m.charts()...)
	if err != api.OK {
		return 0, err
	}
	times := map[api.Place]int{} // how often a member is referred to that was not replaced
	for _, r := range list {
		times[r.Place] = r.N
	}
	p, to := m.pool.Clone(), map[api.Place]api.Entry{}
	for _, at := range l {
		if times[at] == 0 {
			continue
		}
		s, err := m.disk(at)
		if err != api.OK {
			return 0, err
		}
		if to[at], err = fresh(p, s); err != api.OK {
			return 0, err
		}
		delete(times, at)
	}
	m.pool = p
	m.put(to)
	return len(to), api.OK
}

// put has these entries stand, in all maps, for those of the members.
func (m *Image) put(to map[api.Place]api.Entry) {
	for _, c := range m.charts() {
		for _, t := range c.Tables {
			swap(t.L, to)
		}
	}
}

// swap has these entries stand in l for those of the members.
func swap(l []api.Entry, to map[api.Place]api.Entry) {
	for i, x := range l {
		if next, there := to[x.Place]; there && x.Kind == api.EntryDisk {
			l[i] = next
		}
	}
}
