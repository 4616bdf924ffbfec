// Package sha sums bytes by SHA-256, and makes keys of lists of texts.
package sha

import (
	"math/bits"
	"sync"

	"ambry/api"
)

// blockSize: the sum goes over blocks of so many bytes.
const blockSize = 64

// constants: the words that FIPS 180-4 takes from the roots of primes.
type constants struct {
	first [8]uint32  // the state that a sum begins with
	round [64]uint32 // one for each step over a block
}

// summer: one sum, block by block. Its constants are made once, where it asks for them first, and not again for each block.
type summer struct {
	once  sync.Once
	made  constants
	state [8]uint32
}

// words answers the constants, and makes them the first time.
func (s *summer) words() *constants {
	s.once.Do(func() { s.made = constants{first: squareRoots(), round: cubeRoots()} })
	return &s.made
}

// squareRoots: the first 32 bits behind the point of the square roots of the first 8 primes.
func squareRoots() [8]uint32 {
	return [8]uint32{
		0x6a09e667, 0xbb67ae85, 0x3c6ef372, 0xa54ff53a, 0x510e527f, 0x9b05688c, 0x1f83d9ab, 0x5be0cd19,
	}
}

// cubeRoots: the first 32 bits behind the point of the cube roots of the first 64 primes.
func cubeRoots() [64]uint32 {
	return [64]uint32{
		0x428a2f98, 0x71374491, 0xb5c0fbcf, 0xe9b5dba5, 0x3956c25b, 0x59f111f1, 0x923f82a4, 0xab1c5ed5,
		0xd807aa98, 0x12835b01, 0x243185be, 0x550c7dc3, 0x72be5d74, 0x80deb1fe, 0x9bdc06a7, 0xc19bf174,
		0xe49b69c1, 0xefbe4786, 0x0fc19dc6, 0x240ca1cc, 0x2de92c6f, 0x4a7484aa, 0x5cb0a9dc, 0x76f988da,
		0x983e5152, 0xa831c66d, 0xb00327c8, 0xbf597fc7, 0xc6e00bf3, 0xd5a79147, 0x06ca6351, 0x14292967,
		0x27b70a85, 0x2e1b2138, 0x4d2c6dfc, 0x53380d13, 0x650a7354, 0x766a0abb, 0x81c2c92e, 0x92722c85,
		0xa2bfe8a1, 0xa81a664b, 0xc24b8b70, 0xc76c51a3, 0xd192e819, 0xd6990624, 0xf40e3585, 0x106aa070,
		0x19a4c116, 0x1e376c08, 0x2748774c, 0x34b0bcb5, 0x391c0cb3, 0x4ed8aa4a, 0x5b9cca4f, 0x682e6ff3,
		0x748f82ee, 0x78a5636f, 0x84c87814, 0x8cc70208, 0x90befffa, 0xa4506ceb, 0xbef9a3f7, 0xc67178f2,
	}
}

// Sum answers the SHA-256 of b.
func Sum(b []byte) api.Key {
	var s summer
	s.state = s.words().first
	rest := s.take(b)
	s.take(ending(rest, len(b)))
	var k api.Key
	for i, w := range s.state {
		putWord(k[4*i:], w)
	}
	return k
}

// take mixes the whole blocks of b into the state, and answers what is left.
func (s *summer) take(b []byte) []byte {
	for len(b) >= blockSize {
		s.mix(b[:blockSize])
		b = b[blockSize:]
	}
	return b
}

// ending answers the last block or two: what is left of the text, a bit, noughts, and the text's length in bits.
func ending(rest []byte, length int) []byte {
	size := blockSize
	if len(rest)+9 > blockSize {
		size = 2 * blockSize
	}
	t := make([]byte, size)
	copy(t, rest)
	t[len(rest)] = 0x80
	n := uint64(length) * 8
	putWord(t[size-8:], uint32(n>>32))
	putWord(t[size-4:], uint32(n))
	return t
}

// mix takes one block into the state.
func (s *summer) mix(block []byte) {
	round := &s.words().round
	var w [64]uint32
	for i := range 16 {
		w[i] = word(block[4*i:])
	}
	for i := 16; i < 64; i++ {
		x, y := w[i-15], w[i-2]
		small := bits.RotateLeft32(x, -7) ^ bits.RotateLeft32(x, -18) ^ x>>3
		great := bits.RotateLeft32(y, -17) ^ bits.RotateLeft32(y, -19) ^ y>>10
		w[i] = w[i-16] + small + w[i-7] + great
	}
	a, b, d, e := s.state[0], s.state[1], s.state[2], s.state[3]
	f, g, h, j := s.state[4], s.state[5], s.state[6], s.state[7]
	for i := range 64 {
		turnF := bits.RotateLeft32(f, -6) ^ bits.RotateLeft32(f, -11) ^ bits.RotateLeft32(f, -25)
		choice := f&g ^ ^f&h
		one := j + turnF + choice + round[i] + w[i]
		turnA := bits.RotateLeft32(a, -2) ^ bits.RotateLeft32(a, -13) ^ bits.RotateLeft32(a, -22)
		most := a&b ^ a&d ^ b&d
		j, h, g, f = h, g, f, e+one
		e, d, b, a = d, b, a, one+turnA+most
	}
	for i, v := range [8]uint32{a, b, d, e, f, g, h, j} {
		s.state[i] += v
	}
}

// word reads four bytes, the highest first.
func word(b []byte) uint32 {
	return uint32(b[0])<<24 | uint32(b[1])<<16 | uint32(b[2])<<8 | uint32(b[3])
}

// putWord writes four bytes, the highest first.
func putWord(b []byte, w uint32) {
	b[0], b[1], b[2], b[3] = byte(w>>24), byte(w>>16), byte(w>>8), byte(w)
}

// Key answers the sum of the parts, each behind its length: so unlike parts have unlike texts.
func Key(parts []string) api.Key {
	size := 0
	for _, p := range parts {
		size += 4 + len(p)
	}
	text := make([]byte, 0, size)
	for _, p := range parts {
		var length [4]byte
		putWord(length[:], uint32(len(p)))
		text = append(text, length[:]...)
		text = append(text, p...)
	}
	return Sum(text)
}
