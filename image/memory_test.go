package image_test

import (
	"reflect"
	"slices"
	"testing"

	"caulk/api"
	"caulk/image"
)

// extent is the memory of a list.
type extent struct{ from, to uintptr }

// extents is the memory of all lists of v that have any.
func extents(v reflect.Value) []extent {
	var l []extent
	switch v.Kind() {
	case reflect.Slice:
		if v.Cap() > 0 {
			l = append(l, extent{v.Pointer(), v.Pointer() + uintptr(v.Cap())*v.Type().Elem().Size()})
		}
		for i := range v.Len() {
			l = append(l, extents(v.Index(i))...)
		}
	case reflect.Struct:
		for i := range v.NumField() {
			l = append(l, extents(v.Field(i))...)
		}
	}
	return l
}

// spoil changes all that v can reach.
func spoil(v reflect.Value) {
	switch v.Kind() {
	case reflect.Slice:
		for i := range v.Len() {
			spoil(v.Index(i))
		}
	case reflect.Struct:
		for i := range v.NumField() {
			spoil(v.Field(i))
		}
	case reflect.Int:
		v.SetInt(v.Int() + 66)
	case reflect.Uint8, reflect.Uint32:
		v.SetUint(v.Uint() + 66)
	case reflect.Bool:
		v.SetBool(!v.Bool())
	case reflect.String:
		v.SetString("spoilt")
	}
}

func TestMemory(t *testing.T) { // 21.6
	d, made := kept(t, small())
	opened, err := image.Open(d.Clone())
	is(t, "Open", err, api.OK)
	for _, m := range []*image.Image{made, opened} {
		for _, change := range []func(){
			func() {},
			func() { write(t, m, 0, some(5, 1000)) },
			func() { snapshot(t, m, "three") },
			func() { flush(t, m) },
			func() { is(t, "Revert", m.Revert(0), api.OK) },
			func() { replace(t, "one", func() (int, api.Errno) { return m.Replace([]api.Place{{Member: 1}}) }, 1) },
		} {
			change()
			was, now := seen(m), seen(m)
			before := plain(was)
			l := slices.Concat(extents(reflect.ValueOf(was)), extents(reflect.ValueOf(now)))
			for i, a := range l {
				for _, b := range l[:i] {
					if a.from < b.to && b.from < a.to {
						t.Fatal("two lists share memory")
					}
				}
			}
			spoil(reflect.ValueOf(&was).Elem())
			if got := seen(m); !same(got, before) || !same(now, before) {
				t.Fatal("what was answered is the image's own")
			}
		}
	}
	reads(t, made, 3, some(1, 4*512))
}
