// Package sum: sums of texts, by which they are known.
package sum

import (
	"math/bits"
	"strings"

	"rollkeeper/api"
)

const (
	blockSize = 64
	rounds    = 64
	numSize   = 8
	sumSize   = 32
	digits    = "0123456789abcdef"
)

// roundNumbers are FIPS 180-4's: of the cube roots of the first 64 primes the first 32 bits behind the point.
var roundNumbers = [rounds]uint32{
	0x428a2f98, 0x71374491, 0xb5c0fbcf, 0xe9b5dba5, 0x3956c25b, 0x59f111f1, 0x923f82a4, 0xab1c5ed5,
	0xd807aa98, 0x12835b01, 0x243185be, 0x550c7dc3, 0x72be5d74, 0x80deb1fe, 0x9bdc06a7, 0xc19bf174,
	0xe49b69c1, 0xefbe4786, 0x0fc19dc6, 0x240ca1cc, 0x2de92c6f, 0x4a7484aa, 0x5cb0a9dc, 0x76f988da,
	0x983e5152, 0xa831c66d, 0xb00327c8, 0xbf597fc7, 0xc6e00bf3, 0xd5a79147, 0x06ca6351, 0x14292967,
	0x27b70a85, 0x2e1b2138, 0x4d2c6dfc, 0x53380d13, 0x650a7354, 0x766a0abb, 0x81c2c92e, 0x92722c85,
	0xa2bfe8a1, 0xa81a664b, 0xc24b8b70, 0xc76c51a3, 0xd192e819, 0xd6990624, 0xf40e3585, 0x106aa070,
	0x19a4c116, 0x1e376c08, 0x2748774c, 0x34b0bcb5, 0x391c0cb3, 0x4ed8aa4a, 0x5b9cca4f, 0x682e6ff3,
	0x748f82ee, 0x78a5636f, 0x84c87814, 0x8cc70208, 0x90befffa, 0xa4506ceb, 0xbef9a3f7, 0xc67178f2,
}

// running is a sum on its way. It takes texts piece by piece, so that a mark's parts need not be laid into one text.
type running struct {
	state [8]uint32
	block [blockSize]byte
	size  uint64
}

// Sum is a text's SHA-256: 32 bytes.
func Sum(s string) (_ string) {
	r := begin()
	r.add(s)
	return r.end()
}

// Hex writes bytes as hexadecimal digits.
func Hex(s string) (_ string) {
	var b strings.Builder
	b.Grow(2 * len(s))
	for i := range len(s) {
		b.WriteByte(digits[s[i]>>4])
		b.WriteByte(digits[s[i]&15])
	}
	return b.String()
}

// Num is a number as eight bytes, the greatest first.
func Num(n int) (_ string) {
	return eightBytes(uint64(n))
}

// Mark is what texts are known by, of a kind: the first 16 bytes of the sum of the kind, and of each how many bytes it has, and they.
func Mark(kind byte, parts ...string) (_ string) {
	r := begin()
	// Not string(kind): from 128 on that would be two bytes.
	r.add(string([]byte{kind}))
	for _, p := range parts {
		r.add(Num(len(p)))
		r.add(p)
	}
	return r.end()[:api.MarkSize]
}

// eightBytes are a number's bytes, the greatest first.
func eightBytes(n uint64) string {
	var b [numSize]byte
	for i := range numSize {
		b[numSize-1-i] = byte(n >> (8 * i))
	}
	return string(b[:])
}

// begin is the sum ahead of all text: of the square roots of the first eight primes the first 32 bits behind the point.
func begin() running {
	return running{state: [8]uint32{
		0x6a09e667, 0xbb67ae85, 0x3c6ef372, 0xa54ff53a, 0x510e527f, 0x9b05688c, 0x1f83d9ab, 0x5be0cd19,
	}}
}

// add takes a piece of text in.
func (r *running) add(s string) {
	for len(s) > 0 {
		n := copy(r.block[r.size%blockSize:], s)
		s = s[n:]
		r.size += uint64(n)
		if r.size%blockSize == 0 {
			r.mix()
		}
	}
}

// end pads the text (a bit of 1, noughts, how many bits it had) and tells its sum.
func (r *running) end() string {
	size := eightBytes(8 * r.size)
	r.add("\x80")
	at := r.size % blockSize
	if at > blockSize-numSize {
		clear(r.block[at:])
		r.mix()
		at = 0
	}
	clear(r.block[at:])
	copy(r.block[blockSize-numSize:], size)
	r.mix()
	return r.text()
}

// mix takes the full block into the state. The state's words lie in variables meanwhile: an array's elements would go through memory in every round.
func (r *running) mix() {
	w := r.words()
	a, b, c, d := r.state[0], r.state[1], r.state[2], r.state[3]
	e, f, g, h := r.state[4], r.state[5], r.state[6], r.state[7]
	for i := range rounds {
		t := h + (bits.RotateLeft32(e, -6) ^ bits.RotateLeft32(e, -11) ^ bits.RotateLeft32(e, -25))
		t += (e&f ^ g&^e) + roundNumbers[i] + w[i]
		u := bits.RotateLeft32(a, -2) ^ bits.RotateLeft32(a, -13) ^ bits.RotateLeft32(a, -22)
		u += a&b ^ a&c ^ b&c
		h, g, f, e, d, c, b, a = g, f, e, d+t, c, b, a, t+u
	}
	for i, x := range [8]uint32{a, b, c, d, e, f, g, h} {
		r.state[i] += x
	}
}

// words are one a round: the block's own sixteen, then each made of those ahead of it.
func (r *running) words() [rounds]uint32 {
	var w [rounds]uint32
	for i := range 16 {
		for _, b := range r.block[4*i : 4*i+4] {
			w[i] = w[i]<<8 | uint32(b)
		}
	}
	for i := range rounds - 16 {
		x, y := w[i+1], w[i+14]
		x = bits.RotateLeft32(x, -7) ^ bits.RotateLeft32(x, -18) ^ x>>3
		y = bits.RotateLeft32(y, -17) ^ bits.RotateLeft32(y, -19) ^ y>>10
		w[i+16] = w[i] + x + w[i+9] + y
	}
	return w
}

// text is the state's words as bytes, the greatest of each first.
func (r *running) text() string {
	var b [sumSize]byte
	for i := range sumSize {
		b[i] = byte(r.state[i/4] >> (24 - 8*(i%4)))
	}
	return string(b[:])
}
