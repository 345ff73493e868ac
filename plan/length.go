package plan

import (
	"caulk/api"
	"caulk/geom"
)

const (
	number = 4 // bytes of a number
	short  = 1 // bytes of how long a name is
	entry  = 8 // bytes of an entry
)

// length is how many bytes the metadata of s have, once it is settled and has so many stripes. It is told by their widths: a state for which there are too few clusters has no bytes, but would need room.
func length(g api.Geom, s api.State, many int) int {
	n := 4*number + chartLength(g, s.Now)
	for _, x := range s.Snaps {
		n += number + short + len(x.Name) + chartLength(g, x.Chart)
	}
	return n + many*(number+2*number*(g.K+g.M))
}

// chartLength is how many bytes a map has.
func chartLength(g api.Geom, c api.Chart) int {
	return 2*number + len(c.Tables)*(number+entry*geom.Entries(g))
}
