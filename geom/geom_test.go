package geom_test

import (
	"math"
	"testing"

	"caulk/api"
	"caulk/geom"
)

// right are geometries that are right, the edges among them.
func right() []api.Geom {
	l := []api.Geom{
		{Shift: 0, K: 1, M: 0, Clusters: api.MinClusters},
		{Shift: 0, K: 255, M: 0, Clusters: 5},
		{Shift: 0, K: 1, M: 254, Clusters: api.MaxClusters},
		{Shift: 3, K: 4, M: 2, Clusters: api.MaxClusters},
	}
	for shift := range api.MaxShift + 1 { // a device has no more than MaxSectors
		l = append(l, api.Geom{Shift: shift, K: 2, M: 1, Clusters: min(api.MaxClusters, api.MaxSectors>>shift)})
		l = append(l, api.Geom{Shift: shift, K: 2, M: 1, Clusters: api.MinClusters})
	}
	return l
}

// wrong are geometries that are not right.
func wrong() []api.Geom {
	l := []api.Geom{
		{},
		{Shift: -1, K: 2, M: 1, Clusters: 10},
		{Shift: math.MinInt, K: 2, M: 1, Clusters: 10},
		{Shift: api.MaxShift + 1, K: 2, M: 1, Clusters: 10},
		{Shift: 64, K: 2, M: 1, Clusters: 10},
		{Shift: math.MaxInt, K: 2, M: 1, Clusters: 10},
		{K: 0, M: 1, Clusters: 10},
		{K: -1, M: 1, Clusters: 10},
		{K: 1, M: -1, Clusters: 10},
		{K: 255, M: 1, Clusters: 10},
		{K: 1, M: 255, Clusters: 10},
		{K: math.MaxInt, M: 1, Clusters: 10},
		{K: 1, M: math.MaxInt, Clusters: 10},
		{K: 2, M: 1, Clusters: api.MinClusters - 1},
		{K: 2, M: 1, Clusters: 0},
		{K: 2, M: 1, Clusters: -4},
		{K: 2, M: 1, Clusters: math.MinInt},
		{K: 2, M: 1, Clusters: math.MaxInt},
	}
	for shift := range api.MaxShift + 1 {
		l = append(l, api.Geom{Shift: shift, K: 2, M: 1, Clusters: min(api.MaxClusters, api.MaxSectors>>shift) + 1})
		l = append(l, api.Geom{Shift: shift, K: 2, M: 1, Clusters: api.MinClusters - 1})
	}
	return l
}

func TestCheck(t *testing.T) { // 6.1
	for _, g := range right() {
		if err := geom.Check(g); err != api.OK {
			t.Errorf("Check(%v) = %d", g, err)
		}
	}
	for _, g := range wrong() {
		if err := geom.Check(g); err != api.ErrForm {
			t.Errorf("Check(%v) = %d", g, err)
		}
	}
}

func TestSizes(t *testing.T) { // 6.1, 6.2
	for _, g := range right() {
		size := api.Sector
		sectors := g.Clusters
		for range g.Shift {
			size *= 2
			sectors *= 2
		}
		if got := geom.Size(g); got != size {
			t.Errorf("Size(%v) = %d, not %d", g, got, size)
		}
		if got := geom.Sectors(g); got != sectors || got > api.MaxSectors {
			t.Errorf("Sectors(%v) = %d, not %d", g, got, sectors)
		}
		if got := geom.Fan(g); got*12 > size || got*12+12 <= size {
			t.Errorf("Fan(%v) = %d", g, got)
		}
		if got := geom.Entries(g); got*8 != size {
			t.Errorf("Entries(%v) = %d", g, got)
		}
	}
	small, great := api.Geom{K: 2, M: 1, Clusters: 10}, api.Geom{Shift: 7, K: 2, M: 1, Clusters: 256}
	for _, x := range []struct{ got, want int }{
		{geom.Size(small), 512}, {geom.Sectors(small), 10}, {geom.Fan(small), 42}, {geom.Entries(small), 64},
		{geom.Size(great), 65536}, {geom.Sectors(great), 32768}, {geom.Fan(great), 5461}, {geom.Entries(great), 8192},
	} {
		if x.got != x.want {
			t.Errorf("%d, not %d", x.got, x.want)
		}
	}
}

func TestOfWrongOnes(t *testing.T) { // 6.1, 6.2: of a geometry that is not right
	for _, g := range wrong() {
		for say, got := range map[string]int{"Size": geom.Size(g), "Sectors": geom.Sectors(g), "Fan": geom.Fan(g), "Entries": geom.Entries(g)} {
			if got != 0 {
				t.Errorf("%s(%v) = %d", say, g, got)
			}
		}
		for _, at := range []int{0, 1, 3, -1, math.MaxInt, math.MinInt} { // ahead of ErrRange, too
			if n, err := geom.First(g, at); n != 0 || err != api.ErrForm {
				t.Errorf("First(%v, %d) = %d, %d", g, at, n, err)
			}
			if n, err := geom.Cluster(g, at); n != 0 || err != api.ErrForm {
				t.Errorf("Cluster(%v, %d) = %d, %d", g, at, n, err)
			}
			if n, err := geom.Blocks(g, int64(at)); n != 0 || err != api.ErrForm {
				t.Errorf("Blocks(%v, %d) = %d, %d", g, at, n, err)
			}
		}
	}
}

func TestBack(t *testing.T) { // 6.1, 6.3: the clusters' sectors are all sectors, in order
	for _, g := range right() {
		next := 0
		for cluster := range g.Clusters {
			first, err := geom.First(g, cluster)
			if err != api.OK || first != next {
				t.Fatalf("First(%v, %d) = %d, %d, not %d", g, cluster, first, err, next)
			}
			for range geom.Size(g) / api.Sector {
				if got, err := geom.Cluster(g, next); err != api.OK || got != cluster {
					t.Fatalf("Cluster(%v, %d) = %d, %d, not %d", g, next, got, err, cluster)
				}
				next++
			}
		}
		if next != geom.Sectors(g) {
			t.Errorf("the clusters of %v have %d sectors, not %d", g, next, geom.Sectors(g))
		}
	}
}

func TestOutside(t *testing.T) { // 6.1
	for _, g := range right() {
		for _, at := range []int{-1, g.Clusters, g.Clusters + 1, math.MaxInt, math.MinInt, math.MaxInt >> g.Shift, 1 << 32} {
			if n, err := geom.First(g, at); n != 0 || err != api.ErrRange {
				t.Errorf("First(%v, %d) = %d, %d", g, at, n, err)
			}
		}
		for _, at := range []int{-1, geom.Sectors(g), geom.Sectors(g) + 1, math.MaxInt, math.MinInt, 1 << 32} {
			if n, err := geom.Cluster(g, at); n != 0 || err != api.ErrRange {
				t.Errorf("Cluster(%v, %d) = %d, %d", g, at, n, err)
			}
		}
	}
}

func TestBlocks(t *testing.T) { // 6.2
	for _, g := range right() {
		size := int64(geom.Size(g))
		for _, bytes := range []int64{0, 1, 2, 511, 512, 513, size - 1, size, size + 1, 2*size - 1, 2 * size, 2*size + 1, 1000003, api.MaxBytes - 1, api.MaxBytes} {
			want := bytes / size
			if bytes%size > 0 {
				want++
			}
			if got, err := geom.Blocks(g, bytes); err != api.OK || int64(got) != want {
				t.Errorf("Blocks(%v, %d) = %d, %d, not %d", g, bytes, got, err, want)
			}
		}
		for _, bytes := range []int64{-1, math.MinInt64, api.MaxBytes + 1, math.MaxInt64} {
			if n, err := geom.Blocks(g, bytes); n != 0 || err != api.ErrRange {
				t.Errorf("Blocks(%v, %d) = %d, %d", g, bytes, n, err)
			}
		}
	}
}
