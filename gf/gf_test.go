package gf_test

import (
	"math"
	"strings"
	"testing"

	"caulk/api"
	"caulk/gf"
)

// byHand is the product as the chapter's words say it: of polynomials, and then what is left of it modulo x^8 + x^4 + x^3 + x^2 + 1.
func byHand(a, b byte) byte {
	var p int
	for i := range 8 {
		if b>>i&1 == 1 {
			p ^= int(a) << i
		}
	}
	for i := 14; i >= 8; i-- {
		if p>>i&1 == 1 {
			p ^= 0x11d << (i - 8)
		}
	}
	return byte(p)
}

// all is each byte once, rising.
func all() string {
	l := make([]byte, 256)
	for i := range l {
		l[i] = byte(i)
	}
	return string(l)
}

func TestMul(t *testing.T) { // 2.1, and the chapter's example
	if got := gf.Mul(2, 0x80); got != 0x1d {
		t.Errorf("Mul(2, 80) = %02x", got)
	}
	for a := range 256 {
		for b := range 256 {
			if got, want := gf.Mul(byte(a), byte(b)), byHand(byte(a), byte(b)); got != want {
				t.Fatalf("Mul(%02x, %02x) = %02x, not %02x", a, b, got, want)
			}
		}
	}
}

func TestInv(t *testing.T) { // 2.1
	for a := 1; a < 256; a++ {
		x, err := gf.Inv(byte(a))
		if err != api.OK || byHand(byte(a), x) != 1 {
			t.Errorf("Inv(%02x) = %02x, %d", a, x, err)
		}
	}
	if x, err := gf.Inv(0); x != 0 || err != api.ErrZero {
		t.Errorf("Inv(0) = %02x, %d", x, err)
	}
}

func TestDiv(t *testing.T) { // 2.1
	for a := range 256 {
		for b := 1; b < 256; b++ {
			x, err := gf.Div(byte(a), byte(b))
			if err != api.OK || byHand(x, byte(b)) != byte(a) {
				t.Fatalf("Div(%02x, %02x) = %02x, %d", a, b, x, err)
			}
		}
		if x, err := gf.Div(byte(a), 0); x != 0 || err != api.ErrZero {
			t.Errorf("Div(%02x, 0) = %02x, %d", a, x, err)
		}
	}
}

func TestExp(t *testing.T) { // 2.2
	want := byte(1)
	for n := range 600 {
		if got := gf.Exp(n); got != want {
			t.Fatalf("Exp(%d) = %02x, not %02x", n, got, want)
		}
		want = byHand(want, 2)
	}
}

func TestExpBelowNought(t *testing.T) { // 2.2
	const half = 0x8e // the generator's inverse
	if byHand(2, half) != 1 {
		t.Fatal("it is not the inverse")
	}
	want := byte(1)
	for n := range 600 {
		if got := gf.Exp(-n); got != want {
			t.Fatalf("Exp(%d) = %02x, not %02x", -n, got, want)
		}
		want = byHand(want, half)
	}
	if got := gf.Exp(-230); got != 3 {
		t.Errorf("Exp(-230) = %02x", got)
	}
}

func TestExpFarOff(t *testing.T) { // 2.2
	for _, n := range []int{math.MaxInt, math.MinInt, math.MaxInt32, math.MinInt32, 255 << 40, -255 << 40, 255<<40 + 25} {
		rest := (n%255 + 255) % 255
		if got, want := gf.Exp(n), gf.Exp(rest); got != want {
			t.Errorf("Exp(%d) = %02x, not Exp(%d), %02x", n, got, rest, want)
		}
	}
	if gf.Exp(255<<40+25) != 3 || gf.Exp(-255<<40) != 1 {
		t.Error("powers far off are others")
	}
}

func TestLog(t *testing.T) { // 2.2, and the chapter's example
	if n, err := gf.Log(3); n != 25 || err != api.OK {
		t.Errorf("Log(3) = %d, %d", n, err)
	}
	if n, err := gf.Log(1); n != 0 || err != api.OK {
		t.Errorf("Log(1) = %d, %d", n, err)
	}
	if n, err := gf.Log(0x8e); n != 254 || err != api.OK {
		t.Errorf("Log(8e) = %d, %d", n, err)
	}
	seen := map[int]bool{}
	for a := 1; a < 256; a++ {
		n, err := gf.Log(byte(a))
		if err != api.OK || n < 0 || n > 254 || seen[n] {
			t.Errorf("Log(%02x) = %d, %d", a, n, err)
		}
		seen[n] = true
	}
	if n, err := gf.Log(0); n != 0 || err != api.ErrZero {
		t.Errorf("Log(0) = %d, %d", n, err)
	}
}

func TestScale(t *testing.T) { // 2.3
	if got := gf.Scale(2, "\x80\x01"); got != "\x1d\x02" {
		t.Errorf("Scale(2, 8001) = %x", got)
	}
	s := all()
	for c := range 256 {
		got := gf.Scale(byte(c), s)
		if len(got) != len(s) {
			t.Fatalf("Scale(%02x, %d bytes) has %d bytes", c, len(s), len(got))
		}
		for i := range len(s) {
			if want := byHand(byte(c), s[i]); got[i] != want {
				t.Fatalf("Scale(%02x, ..) has %02x at %02x, not %02x", c, got[i], i, want)
			}
		}
		if gf.Scale(byte(c), "") != "" {
			t.Errorf("Scale(%02x, no bytes) has some", c)
		}
	}
}

func TestPut(t *testing.T) { // 2.3
	s := all()
	for c := range 256 {
		to := []byte(strings.Repeat("\xa5\x00", 128))
		was := string(to)
		gf.Put(to, byte(c), s)
		for i := range to {
			if want := was[i] ^ byHand(byte(c), s[i]); to[i] != want {
				t.Fatalf("Put(.., %02x, ..) has %02x at %02x, not %02x", c, to[i], i, want)
			}
		}
		gf.Put(to, byte(c), s)
		if string(to) != was {
			t.Fatalf("what %02x was put to twice is not what it was", c)
		}
	}
}

func TestPutOfUnlikeLengths(t *testing.T) { // 2.3
	for _, x := range []struct{ to, s, want string }{
		{"\x01\x02", "\x80", "\x1c\x02"},
		{"\x01\x02", "\x80\x01\x07", "\x1c\x00"},
		{"\x01", "\x80\x01", "\x1c"},
		{"\x01\x02", "", "\x01\x02"},
		{"", "\x80", ""},
		{"", "", ""},
	} {
		to := []byte(x.to)
		gf.Put(to, 2, x.s)
		if string(to) != x.want {
			t.Errorf("Put(%x, 2, %x): %x, not %x", x.to, x.s, to, x.want)
		}
	}
	gf.Put(nil, 2, "\x80")
}

func TestPutStaysWithin(t *testing.T) { // 2.3: what lies behind a part of a slice is left alone
	l := []byte("\x01\x02\x03\x04")
	gf.Put(l[1:2], 1, "\xff\xff\xff")
	if string(l) != "\x01\xfd\x03\x04" {
		t.Errorf("Put into a part: %x", l)
	}
}

func TestField(t *testing.T) { // 2.4
	for a := range 256 {
		for b := range 256 {
			x, y := byte(a), byte(b)
			ab := gf.Mul(x, y)
			if ab != gf.Mul(y, x) {
				t.Fatalf("the product of %02x and %02x hangs on their order", x, y)
			}
			for z := byte(1); z != 0; z <<= 1 { // sums of these are all elements
				if gf.Mul(ab, z) != gf.Mul(x, gf.Mul(y, z)) {
					t.Fatalf("the product of %02x, %02x and %02x hangs on brackets", x, y, z)
				}
				if gf.Mul(x, y^z) != ab^gf.Mul(x, z) {
					t.Fatalf("the product of %02x does not spread over %02x and %02x", x, y, z)
				}
			}
		}
	}
}

func TestOneAndInverses(t *testing.T) { // 2.4
	for a := range 256 {
		x := byte(a)
		if gf.Mul(x, 1) != x || gf.Mul(1, x) != x || gf.Mul(x, 0) != 0 || gf.Mul(0, x) != 0 {
			t.Errorf("1 changes %02x, or 0 does not make it 0", x)
		}
		if y, err := gf.Inv(x); x != 0 && (err != api.OK || gf.Mul(x, y) != 1 || gf.Mul(y, x) != 1) {
			t.Errorf("%02x has no inverse", x)
		}
	}
}

func TestLogarithms(t *testing.T) { // 2.5
	for a := -300; a <= 300; a++ {
		for b := -300; b <= 300; b += 7 {
			if got, want := gf.Exp(a+b), gf.Mul(gf.Exp(a), gf.Exp(b)); got != want {
				t.Fatalf("Exp(%d) = %02x, not the product of Exp(%d) and Exp(%d), %02x", a+b, got, a, b, want)
			}
		}
	}
	for a := 1; a < 256; a++ {
		n, err := gf.Log(byte(a))
		if err != api.OK || gf.Exp(n) != byte(a) {
			t.Errorf("Exp(Log(%02x)) = %02x, %d", a, gf.Exp(n), err)
		}
	}
	for n := range 255 {
		if m, err := gf.Log(gf.Exp(n)); m != n || err != api.OK {
			t.Errorf("Log(Exp(%d)) = %d, %d", n, m, err)
		}
	}
}
