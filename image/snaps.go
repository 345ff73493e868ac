package image

import (
	"slices"
	"strings"

	"caulk/api"
	"caulk/chart"
	"caulk/state"
)

// Resize has the map of now have so many blocks.
func (m *Image) Resize(blocks int) api.Errno {
	if m.Broken() {
		return api.ErrDown
	}
	defer m.tidy()
	c, err := chart.Resize(m.fan(), m.state.Now, blocks)
	if err != api.OK {
		return err
	}
	m.state.Now = c
	return api.OK
}

// Snapshot keeps the map of now under a name, and answers the snapshot's Id.
func (m *Image) Snapshot(name string) (int, api.Errno) {
	if m.Broken() {
		return 0, api.ErrDown
	}
	if len(name) < 1 || len(name) > api.MaxName {
		return 0, api.ErrForm
	}
	if slices.ContainsFunc(m.state.Snaps, func(x api.Snap) bool { return x.Name == name }) {
		return 0, api.ErrTwice
	}
	id := m.state.NextSnap
	if len(m.state.Snaps) >= api.MaxSnaps || id >= api.MaxId-1 {
		return 0, api.ErrFull
	}
	x := api.Snap{Id: id, Name: strings.Clone(name), Chart: own(m.state.Now)}
	m.state.Snaps = append(m.state.Snaps, x)
	m.state.NextSnap++
	return id, api.OK
}

// Delete has the snapshot id be gone; ErrNone, if there is none.
func (m *Image) Delete(id int) api.Errno {
	if m.Broken() {
		return api.ErrDown
	}
	defer m.tidy()
	i := m.snap(id)
	if i < 0 {
		return api.ErrNone
	}
	m.state.Snaps = slices.Delete(m.state.Snaps, i, i+1)
	return api.OK
}

// Revert has the map of now be that of the snapshot id, which stays; ErrNone, if there is none.
func (m *Image) Revert(id int) api.Errno {
	if m.Broken() {
		return api.ErrDown
	}
	defer m.tidy()
	i := m.snap(id)
	if i < 0 {
		return api.ErrNone
	}
	m.state.Now = own(m.state.Snaps[i].Chart)
	return api.OK
}

// snap is at which place the snapshot id stands; below 0, if there is none.
func (m *Image) snap(id int) int {
	return slices.IndexFunc(m.state.Snaps, func(x api.Snap) bool { return x.Id == id })
}

// own is c in memory of its own, as entries are put into the tables of the map of now.
func own(c api.Chart) api.Chart {
	return state.Charts(api.State{Now: c})[0]
}
