// Package sha implements the SHA-256 digest (FIPS 180-4), and gives out its initial state, compression function and padding.
package sha

import (
	"math/bits"
	"slices"

	"redwax/api"
)

const (
	blockSize  = 64
	lengthSize = 8

	// Bounds of the number of bytes before a padding. 8 times the greater one still fits into the
	// eight bytes that tell it; the lesser one leaves room for what Resume adds.
	mostBehind = 1 << 60
	mostResume = 1 << 56
)

// Words are the eight words of a state.
type Words [8]uint32

// startWords are H0 to H7, from the square roots of the first eight primes.
var startWords = [8]uint32{
	0x6a09e667, 0xbb67ae85, 0x3c6ef372, 0xa54ff53a, 0x510e527f, 0x9b05688c, 0x1f83d9ab, 0x5be0cd19,
}

// roundWords are K0 to K63, from the cube roots of the first 64 primes.
var roundWords = [64]uint32{
	0x428a2f98, 0x71374491, 0xb5c0fbcf, 0xe9b5dba5, 0x3956c25b, 0x59f111f1, 0x923f82a4, 0xab1c5ed5,
	0xd807aa98, 0x12835b01, 0x243185be, 0x550c7dc3, 0x72be5d74, 0x80deb1fe, 0x9bdc06a7, 0xc19bf174,
	0xe49b69c1, 0xefbe4786, 0x0fc19dc6, 0x240ca1cc, 0x2de92c6f, 0x4a7484aa, 0x5cb0a9dc, 0x76f988da,
	0x983e5152, 0xa831c66d, 0xb00327c8, 0xbf597fc7, 0xc6e00bf3, 0xd5a79147, 0x06ca6351, 0x14292967,
	0x27b70a85, 0x2e1b2138, 0x4d2c6dfc, 0x53380d13, 0x650a7354, 0x766a0abb, 0x81c2c92e, 0x92722c85,
	0xa2bfe8a1, 0xa81a664b, 0xc24b8b70, 0xc76c51a3, 0xd192e819, 0xd6990624, 0xf40e3585, 0x106aa070,
	0x19a4c116, 0x1e376c08, 0x2748774c, 0x34b0bcb5, 0x391c0cb3, 0x4ed8aa4a, 0x5b9cca4f, 0x682e6ff3,
	0x748f82ee, 0x78a5636f, 0x84c87814, 0x8cc70208, 0x90befffa, 0xa4506ceb, 0xbef9a3f7, 0xc67178f2,
}

// Start returns the state before any block (P1.1).
func Start() Words {
	return startWords
}

// Mix returns the state w, mixed with a block (P1.1).
func Mix(w Words, block [64]byte) Words {
	s := schedule(block)
	a, b, c, d, e, f, g, h := w[0], w[1], w[2], w[3], w[4], w[5], w[6], w[7]
	for i := range s {
		choice := (e & f) ^ (^e & g)
		majority := (a & b) ^ (a & c) ^ (b & c)
		u := h + (right(e, 6) ^ right(e, 11) ^ right(e, 25)) + choice + roundWords[i] + s[i]
		v := (right(a, 2) ^ right(a, 13) ^ right(a, 22)) + majority
		a, b, c, d, e, f, g, h = u+v, a, b, c, d+u, e, f, g
	}
	return Words{w[0] + a, w[1] + b, w[2] + c, w[3] + d, w[4] + e, w[5] + f, w[6] + g, w[7] + h}
}

// schedule returns the words W0 to W63 of a block.
func schedule(block [64]byte) [64]uint32 {
	var s [64]uint32
	for i := range 16 {
		s[i] = word(block[4*i:])
	}
	for i := 16; i < len(s); i++ {
		x, y := s[i-15], s[i-2]
		s[i] = s[i-16] + (right(x, 7) ^ right(x, 18) ^ x>>3) + s[i-7] + (right(y, 17) ^ right(y, 19) ^ y>>10)
	}
	return s
}

func right(x uint32, n int) uint32 {
	return bits.RotateLeft32(x, -n)
}

// Behind returns the padding after n bytes; none for an n out of its bounds (P1.1).
func Behind(n int) []byte {
	if n < 0 || int64(n) > mostBehind {
		return nil
	}
	return padding(uint64(n))
}

func padding(n uint64) []byte {
	bare := int(n%blockSize) + 1 + lengthSize
	zeros := (2*blockSize - bare) % blockSize
	p := make([]byte, 1+zeros+lengthSize)
	p[0] = 128
	length := 8 * n
	for i := range lengthSize {
		p[len(p)-1-i] = byte(length >> (8 * i))
	}
	return p
}

// Sum returns the digest of b (P1.2).
func Sum(b []byte) api.Hash {
	return finish(Start(), b, uint64(len(b)))
}

// Resume continues the digest h of n bytes with more (P1.3).
func Resume(h api.Hash, n int, more []byte) (api.Hash, api.Errno) {
	if n < 0 || int64(n) > mostResume {
		return api.Hash{}, api.ErrArg
	}
	done := uint64(n) + uint64(len(padding(uint64(n))))
	return finish(wordsOf(h), more, done+uint64(len(more))), api.OK
}

// finish mixes b and the padding after n bytes into w; b counts in n.
func finish(w Words, b []byte, n uint64) api.Hash {
	w, rest := mixBlocks(w, b)
	w, _ = mixBlocks(w, slices.Concat(rest, padding(n)))
	return hashOf(w)
}

// mixBlocks mixes the whole blocks of b into w, and returns the bytes that are left, too.
func mixBlocks(w Words, b []byte) (Words, []byte) {
	for len(b) >= blockSize {
		var block [blockSize]byte
		copy(block[:], b)
		w = Mix(w, block)
		b = b[blockSize:]
	}
	return w, b
}

func word(b []byte) uint32 {
	return uint32(b[0])<<24 | uint32(b[1])<<16 | uint32(b[2])<<8 | uint32(b[3])
}

func wordsOf(h api.Hash) Words {
	var w Words
	for i := range w {
		w[i] = word(h[4*i:])
	}
	return w
}

func hashOf(w Words) api.Hash {
	var h api.Hash
	for i, x := range w {
		h[4*i], h[4*i+1], h[4*i+2], h[4*i+3] = byte(x>>24), byte(x>>16), byte(x>>8), byte(x)
	}
	return h
}
