// Package gf has the field of 256 elements: see ../../shared/DOC.md and doc/02-gf.md.
package gf

import "caulk/api"

const (
	over  = 0x1d // what x^8 comes to, modulo x^8 + x^4 + x^3 + x^2 + 1
	order = 255  // how many powers of the generator are unlike
)

// double is a times x.
func double(a byte) byte {
	return a<<1 ^ over*(a>>7)
}

// powers tells the generator's powers, each with its number, from 0 to 254.
func powers(yield func(int, byte) bool) {
	power := byte(1)
	for n := range order {
		if !yield(n, power) {
			return
		}
		power = double(power)
	}
}

// Mul is the product of a and b.
func Mul(a, b byte) byte {
	var product byte
	for ; b > 0; b >>= 1 {
		product ^= a * (b & 1)
		a = double(a)
	}
	return product
}

// Inv is the element whose product with a is 1; ErrZero, if a is 0.
func Inv(a byte) (byte, api.Errno) {
	n, err := Log(a)
	if err != api.OK {
		return 0, err
	}
	return Exp(-n), api.OK
}

// Div is a times the inverse of b; ErrZero, if b is 0.
func Div(a, b byte) (byte, api.Errno) {
	inverse, err := Inv(b)
	if err != api.OK {
		return 0, err
	}
	return Mul(a, inverse), api.OK
}

// Exp is the generator's power of n, whatever n is.
func Exp(n int) byte {
	n %= order
	if n < 0 {
		n += order
	}
	for at, power := range powers {
		if at == n {
			return power
		}
	}
	return 0
}

// Log is the n from 0 to 254 whose Exp a is; ErrZero, if a is 0.
func Log(a byte) (int, api.Errno) {
	for n, power := range powers {
		if power == a {
			return n, api.OK
		}
	}
	return 0, api.ErrZero
}

// multiples has the products of c with 0 to 15.
func multiples(c byte) [16]byte {
	var l [16]byte
	for i := range l {
		l[i] = double(l[i/2]) ^ c*byte(i%2)
	}
	return l
}

// halves has the products of c with the low halves of bytes, and with the high ones: a byte's product is one of each, added.
func halves(c byte) (low, high [16]byte) {
	return multiples(c), multiples(Mul(c, 16))
}

// Scale is s, each byte of it times c.
func Scale(c byte, s string) string {
	out := make([]byte, len(s))
	Put(out, c, s)
	return string(out)
}

// Put adds to each byte of to the byte of s at its place, times c, as far as both go.
func Put(to []byte, c byte, s string) {
	low, high := halves(c)
	for i := range min(len(to), len(s)) {
		to[i] ^= low[s[i]&15] ^ high[s[i]>>4]
	}
}
