package image

import (
	"reflect"
	"testing"
	"unsafe"

	"caulk/api"
	"caulk/dev"
)

// last is the number that m's pool gave last. So many can't be given in a test, so it is set.
func last(m *Image) *int {
	f := reflect.ValueOf(m.pool).Elem().FieldByName("last")
	return (*int)(unsafe.Pointer(f.UnsafeAddr()))
}

func TestFull(t *testing.T) { // 21.3, 21.5: when there are too few numbers, nothing has changed, the next number too
	g := api.Geom{K: 2, M: 1, Clusters: 40}
	d, _ := dev.New(40)
	m, err := New(d, g, 10)
	if err != api.OK || m.Write(0, string(make([]byte, 3*512))) != api.OK || m.Flush() != api.OK {
		t.Fatal("there is no image")
	}
	*last(m) = api.MaxFresh - 2
	more := string(make([]byte, 3*512))
	for range 3 {
		if err := m.Write(512, more); err != api.ErrFull {
			t.Errorf("Write = %d", err)
		}
		if n, err := m.Replace([]api.Place{{}, {Member: 1}, {Stripe: 1}}); n != 0 || err != api.ErrFull {
			t.Errorf("Replace = %d, %d", n, err)
		}
		if *last(m) != api.MaxFresh-2 || m.Dirty() != 0 {
			t.Errorf("the last number is %d, Dirty = %d", *last(m), m.Dirty())
		}
	}
	if err := m.Write(3, more[:600]); err != api.OK || *last(m) != api.MaxFresh || m.Dirty() != 2 {
		t.Errorf("Write = %d, the last number is %d, Dirty = %d", err, *last(m), m.Dirty())
	}
	if err := m.Write(0, "x"); err != api.ErrFull {
		t.Errorf("Write = %d", err)
	}
	if m.Zero(512, 1024) != api.OK || m.Zero(0, 1) != api.ErrFull || m.Dirty() != 1 || m.Flush() != api.OK {
		t.Errorf("Dirty = %d", m.Dirty())
	}
	if s, err := m.Read(0, 10*512); s != string(make([]byte, 10*512)) || err != api.OK {
		t.Errorf("Read = %q, %d", s, err)
	}
}
