// Package sha sums bytes by SHA-256, and makes keys of lists of texts.
package sha

import (
	"math/bits"
	"sync"

	"ambry/api"
)

// blockSize: the sum goes over blocks of so many bytes.
const blockSize = 64

// constants: the words that FIPS 180-4 takes from the roots of primes.
type constants struct {
	first [8]uint32  // the state that a sum begins with
	round [64]uint32 // one for each step over a block
}

// The constants are the same for every sum: they are worked out where the first one asks for them.
var (
	once sync.Once
	made constants
)

// words answers the constants, and makes them the first time.
func words() constants {
	once.Do(func() { made = derive() })
	return made
}

// derive works the constants out: the first 32 bits behind the point of the
// square roots of the first 8 primes, and of the cube roots of the first 64.
func derive() constants {
	var c constants
	n := 0
	for p := uint64(2); n < len(c.round); p++ {
		if !prime(p) {
			continue
		}
		if n < len(c.first) {
			c.first[n] = uint32(root(p, squareAbove))
		}
		c.round[n] = uint32(root(p, cubeAbove))
		n++
	}
	return c
}

func prime(p uint64) bool {
	for d := uint64(2); d*d <= p; d++ {
		if p%d == 0 {
			return false
		}
	}
	return true
}

// root answers the greatest x whose power isn't above p, with 32 bits of x behind the point.
func root(p uint64, above func(x, p uint64) bool) uint64 {
	x := uint64(0)
	for bit := 37; bit >= 0; bit-- {
		if y := x | 1<<bit; !above(y, p) {
			x = y
		}
	}
	return x
}

// squareAbove: whether x*x is above p * 2^64.
func squareAbove(x, p uint64) bool {
	high, low := bits.Mul64(x, x)
	return high > p || high == p && low > 0
}

// cubeAbove: whether x*x*x is above p * 2^96.
func cubeAbove(x, p uint64) bool {
	high, low := bits.Mul64(x, x)
	carry, rest := bits.Mul64(low, x)
	top := high*x + carry
	return top > p<<32 || top == p<<32 && rest > 0
}

// Sum answers the SHA-256 of b.
func Sum(b []byte) api.Key {
	c := words()
	state := c.first
	rest := b
	for len(rest) >= blockSize {
		c.mix(&state, rest[:blockSize])
		rest = rest[blockSize:]
	}
	tail := ending(rest, len(b))
	for len(tail) > 0 {
		c.mix(&state, tail[:blockSize])
		tail = tail[blockSize:]
	}
	var k api.Key
	for i, w := range state {
		putWord(k[4*i:], w)
	}
	return k
}

// ending answers the last block or two: what is left of the text, a bit, noughts, and the text's length in bits.
func ending(rest []byte, length int) []byte {
	size := blockSize
	if len(rest)+9 > blockSize {
		size = 2 * blockSize
	}
	t := make([]byte, size)
	copy(t, rest)
	t[len(rest)] = 0x80
	n := uint64(length) * 8
	putWord(t[size-8:], uint32(n>>32))
	putWord(t[size-4:], uint32(n))
	return t
}

// mix takes one block into the state.
func (c *constants) mix(state *[8]uint32, block []byte) {
	var w [64]uint32
	for i := range 16 {
		w[i] = word(block[4*i:])
	}
	for i := 16; i < 64; i++ {
		x, y := w[i-15], w[i-2]
		small := bits.RotateLeft32(x, -7) ^ bits.RotateLeft32(x, -18) ^ x>>3
		great := bits.RotateLeft32(y, -17) ^ bits.RotateLeft32(y, -19) ^ y>>10
		w[i] = w[i-16] + small + w[i-7] + great
	}
	a, b, d, e := state[0], state[1], state[2], state[3]
	f, g, h, j := state[4], state[5], state[6], state[7]
	for i := range 64 {
		turnF := bits.RotateLeft32(f, -6) ^ bits.RotateLeft32(f, -11) ^ bits.RotateLeft32(f, -25)
		choice := f&g ^ ^f&h
		one := j + turnF + choice + c.round[i] + w[i]
		turnA := bits.RotateLeft32(a, -2) ^ bits.RotateLeft32(a, -13) ^ bits.RotateLeft32(a, -22)
		most := a&b ^ a&d ^ b&d
		j, h, g, f = h, g, f, e+one
		e, d, b, a = d, b, a, one+turnA+most
	}
	for i, v := range [8]uint32{a, b, d, e, f, g, h, j} {
		state[i] += v
	}
}

// word reads four bytes, the highest first.
func word(b []byte) uint32 {
	return uint32(b[0])<<24 | uint32(b[1])<<16 | uint32(b[2])<<8 | uint32(b[3])
}

// putWord writes four bytes, the highest first.
func putWord(b []byte, w uint32) {
	b[0], b[1], b[2], b[3] = byte(w>>24), byte(w>>16), byte(w>>8), byte(w)
}

// Key answers the sum of the parts, each behind its length: so unlike parts have unlike texts.
func Key(parts []string) api.Key {
	size := 0
	for _, p := range parts {
		size += 4 + len(p)
	}
	text := make([]byte, 0, size)
	for _, p := range parts {
		var length [4]byte
		putWord(length[:], uint32(len(p)))
		text = append(text, length[:]...)
		text = append(text, p...)
	}
	return Sum(text)
}
