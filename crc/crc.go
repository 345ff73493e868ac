// Package crc has check sums of 32 bits (CRC-32C): see ../../shared/DOC.md and doc/01-crc.md.
package crc

const (
	start = 0xffffffff // a rest that has taken nothing in
	width = 4          // a sum's bytes
)

// nibbles has what a rest of four bits comes to when four bits 0 are taken in: a byte is taken in by two look-ups, where bit by bit it would be eight steps.
var nibbles = [16]uint32{
	0x00000000, 0x105ec76f, 0x20bd8ede, 0x30e349b1,
	0x417b1dbc, 0x5125dad3, 0x61c69362, 0x7198540d,
	0x82f63b78, 0x92a8fc17, 0xa24bb5a6, 0xb21572c9,
	0xc38d26c4, 0xd3d3e1ab, 0xe330a81a, 0xf36e6f75,
}

// Start is the rest that has taken nothing in.
func Start() uint32 {
	return start
}

// Add is the rest when it has taken the bytes of s in.
func Add(rest uint32, s string) uint32 {
	for i := range len(s) {
		rest ^= uint32(s[i])
		rest = nibbles[rest&15] ^ rest>>4
		rest = nibbles[rest&15] ^ rest>>4
	}
	return rest
}

// End is the rest with its bits turned round.
func End(rest uint32) uint32 {
	return ^rest
}

// Sum is the sum of s.
func Sum(s string) uint32 {
	return End(Add(Start(), s))
}

// Bytes is the sum's four bytes, the lowest one first.
func Bytes(s string) string {
	var l [width]byte
	sum := Sum(s)
	for i := range l {
		l[i] = byte(sum >> (8 * i))
	}
	return string(l[:])
}

// Good tells whether s ends with the Bytes of all that is ahead of these.
func Good(s string) bool {
	body := len(s) - width
	return body >= 0 && s[body:] == Bytes(s[:body])
}
