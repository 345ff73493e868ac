package crc_test

import (
	"hash/crc32"
	"strings"
	"testing"

	"caulk/crc"
)

// byBits takes the bytes of s in as the chapter's words say it: bit by bit.
func byBits(rest uint32, s string) uint32 {
	for i := range len(s) {
		for bit := range 8 {
			other := uint32(s[i]>>bit)&1 != rest&1
			rest >>= 1
			if other {
				rest ^= 0x82f63b78
			}
		}
	}
	return rest
}

// noise is n bytes without a pattern, always the same ones for one seed.
func noise(seed uint32, n int) string {
	l := make([]byte, n)
	for i := range l {
		seed = seed*1664525 + 1013904223
		l[i] = byte(seed >> 24)
	}
	return string(l)
}

// together is a put together (exclusive or) with b, that is as long.
func together(a, b string) string {
	l := []byte(a)
	for i := range l {
		l[i] ^= b[i]
	}
	return string(l)
}

// turn is s with the bits of by turned round, from the bit at on.
func turn(s string, at int, by uint32) string {
	l := []byte(s)
	for i := range 32 {
		if by>>i&1 == 1 {
			l[(at+i)/8] ^= 1 << ((at + i) % 8)
		}
	}
	return string(l)
}

// texts are ordinary ones, and edges: none, one byte, all bytes, noughts, more than a cluster.
func texts() []string {
	l := []string{"", "\x00", "\xff", "a", "123456789", "\x00\x00\x00\x00", strings.Repeat("\xff", 5), strings.Repeat("\x00", 512)}
	for b := range 256 {
		l = append(l, string([]byte{byte(b)}))
	}
	for n := range 40 {
		l = append(l, noise(uint32(n), n))
	}
	return append(l, noise(7, 512), noise(8, 65536+3))
}

func TestStart(t *testing.T) { // 1.1
	if got := crc.Start(); got != 0xffffffff {
		t.Errorf("Start() = %08x", got)
	}
}

func TestAdd(t *testing.T) { // 1.1
	for _, rest := range []uint32{0, 1, 0xf, 0x80000000, 0x12345678, 0xfffffffe, 0xffffffff} {
		for _, s := range texts() {
			if got, want := crc.Add(rest, s), byBits(rest, s); got != want {
				t.Errorf("Add(%08x, %d bytes) = %08x, not %08x", rest, len(s), got, want)
			}
		}
		if got := crc.Add(rest, ""); got != rest {
			t.Errorf("Add(%08x, no bytes) = %08x", rest, got)
		}
	}
}

func TestEnd(t *testing.T) { // 1.1
	for rest, want := range map[uint32]uint32{0: 0xffffffff, 0xffffffff: 0, 0x0f0f1234: 0xf0f0edcb, 1: 0xfffffffe} {
		if got := crc.End(rest); got != want {
			t.Errorf("End(%08x) = %08x, not %08x", rest, got, want)
		}
	}
}

func TestSum(t *testing.T) { // 1.1, and the chapter's example
	if got := crc.Sum("123456789"); got != 0xe3069283 {
		t.Errorf("Sum(123456789) = %08x", got)
	}
	if got := crc.Sum(""); got != 0 {
		t.Errorf("Sum of no bytes = %08x", got)
	}
	other := crc32.MakeTable(crc32.Castagnoli)
	for _, s := range texts() {
		if got, want := crc.Sum(s), crc32.Checksum([]byte(s), other); got != want {
			t.Errorf("Sum(%d bytes) = %08x, not %08x", len(s), got, want)
		}
		if got, want := crc.Sum(s), ^byBits(0xffffffff, s); got != want {
			t.Errorf("Sum(%d bytes) = %08x, bit by bit %08x", len(s), got, want)
		}
	}
}

func TestBytes(t *testing.T) { // 1.2
	if got := crc.Bytes("123456789"); got != "\x83\x92\x06\xe3" {
		t.Errorf("Bytes(123456789) = %x", got)
	}
	if got := crc.Bytes(""); got != "\x00\x00\x00\x00" {
		t.Errorf("Bytes of no bytes = %x", got)
	}
	for _, s := range texts() {
		n := crc.Sum(s)
		if got, want := crc.Bytes(s), string([]byte{byte(n), byte(n >> 8), byte(n >> 16), byte(n >> 24)}); got != want {
			t.Errorf("Bytes(%d bytes) = %x, not %x", len(s), got, want)
		}
	}
}

func TestGood(t *testing.T) { // 1.2
	for _, s := range texts() {
		whole := s + crc.Bytes(s)
		if !crc.Good(whole) {
			t.Errorf("%d bytes with their sum behind them are not good", len(s))
		}
		for i := range min(len(whole), 50) {
			bad := []byte(whole)
			bad[len(bad)-1-i] ^= 1
			if crc.Good(string(bad)) {
				t.Errorf("%d bytes with their sum are good, though one is another", len(s))
			}
		}
	}
}

func TestGoodOfWrongInputs(t *testing.T) { // 1.2
	sum := crc.Bytes("123456789")
	turned := []byte(sum)
	turned[0], turned[1], turned[2], turned[3] = sum[3], sum[2], sum[1], sum[0]
	for _, s := range []string{
		"", "\x00", "\x00\x00", "\x00\x00\x00", "abc", // too short for a sum
		"\x00\x00\x00\x01", "abcd", "123456789", // another sum
		"123456789" + string(turned), "123456789" + sum[:3], // the highest byte first, or one too few
		sum + "123456789", "123456789" + sum + "\x00", // not at the end
	} {
		if crc.Good(s) {
			t.Errorf("Good(%q)", s)
		}
	}
	if !crc.Good("\x00\x00\x00\x00") {
		t.Error("the sum of no bytes alone is not good")
	}
}

func TestPieceByPiece(t *testing.T) { // 1.3
	for _, s := range texts() {
		if len(s) > 600 {
			continue
		}
		for at := range len(s) + 1 {
			if got := crc.End(crc.Add(crc.Add(crc.Start(), s[:at]), s[at:])); got != crc.Sum(s) {
				t.Fatalf("%d bytes in pieces of %d, and the rest = %08x, not %08x", len(s), at, got, crc.Sum(s))
			}
		}
		rest := crc.Start()
		for i := range len(s) {
			rest = crc.Add(rest, s[i:i+1])
		}
		if crc.End(rest) != crc.Sum(s) {
			t.Fatalf("%d bytes one by one come to another sum", len(s))
		}
	}
}

func TestFound(t *testing.T) { // 1.4
	by := []uint32{3, 5, 0x101, 0x10001, 0x82f63b78, 0x05ec76f1, 0xffffffff, 0x80000001, 0xdeadbeef}
	for i := range 32 {
		by = append(by, 1<<i, 0xffffffff>>i)
	}
	for i := range 200 {
		n := noise(uint32(i), 4)
		by = append(by, uint32(n[0])|uint32(n[1])<<8|uint32(n[2])<<16|uint32(n[3])<<24|1)
	}
	for _, s := range []string{"1234", "123456789", strings.Repeat("\x00", 12), strings.Repeat("\xff", 12), noise(3, 37)} {
		sum := crc.Sum(s)
		for at := range 8*len(s) - 31 {
			for _, x := range by {
				if crc.Sum(turn(s, at, x)) == sum {
					t.Fatalf("%08x turned round from the bit %d on of %d bytes is not found", x, at, len(s))
				}
			}
		}
	}
}

func TestFoundAtTheEnd(t *testing.T) { // 1.4, and fewer bytes than 32 bits
	for n := 1; n <= 4; n++ {
		s := noise(uint32(n), n)
		for at := range 8 * n {
			for x := uint32(1); x < 1<<8 && x < 1<<(8*n-at); x++ {
				if crc.Sum(turn(s, at, x)) == crc.Sum(s) {
					t.Fatalf("%08x turned round from the bit %d on of %d bytes is not found", x, at, n)
				}
			}
		}
	}
}

func TestTogether(t *testing.T) { // 1.5
	for n := range 70 {
		blank := strings.Repeat("\x00", n)
		for seed := range uint32(8) {
			a, b := noise(seed, n), noise(seed+100, n)
			if x := crc.Sum(a) ^ crc.Sum(b) ^ crc.Sum(together(a, b)) ^ crc.Sum(blank); x != 0 {
				t.Errorf("of twice %d bytes the sums come to %08x", n, x)
			}
		}
	}
}
