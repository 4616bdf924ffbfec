package sha

import (
	"math/big"
	"testing"
)

// behindPoint answers the first 32 bits behind the point of the root of n whose power is that: 2 or 3.
func behindPoint(n, power int64) uint32 {
	wide := new(big.Int).Lsh(big.NewInt(n), uint(32*power))
	root := new(big.Int)
	for bit := 40; bit >= 0; bit-- {
		root.SetBit(root, bit, 1)
		if new(big.Int).Exp(root, big.NewInt(power), nil).Cmp(wide) > 0 {
			root.SetBit(root, bit, 0)
		}
	}
	return uint32(root.Uint64())
}

func TestConstantsAreRootsOfPrimes(t *testing.T) { // P1.1: FIPS 180-4, 4.2.2 and 5.3.3
	var primes []int64
	for p := int64(2); len(primes) < 64; p++ {
		if big.NewInt(p).ProbablyPrime(0) {
			primes = append(primes, p)
		}
	}
	first, round := squareRoots(), cubeRoots()
	for i, w := range first {
		if w != behindPoint(primes[i], 2) {
			t.Errorf("square root of %d: %08x", primes[i], w)
		}
	}
	for i, w := range round {
		if w != behindPoint(primes[i], 3) {
			t.Errorf("cube root of %d: %08x", primes[i], w)
		}
	}
}

func TestConstantsAreMadeOnce(t *testing.T) { // where a sum asks for them first, and not again
	var s summer
	if s.made != (constants{}) {
		t.Error("made before they were asked for")
	}
	if *s.words() != (constants{squareRoots(), cubeRoots()}) {
		t.Error("wrong words")
	}
	s.made.first[0]++
	if s.words().first[0] == squareRoots()[0] {
		t.Error("made again")
	}
}
