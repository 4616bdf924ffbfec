// Package big writes and reads numbers with their highest byte first.
package big

// Append puts the lowest bytes of n, so many as size says, behind b.
func Append(b []byte, n uint64, size int) []byte {
	for i := size - 1; i >= 0; i-- {
		b = append(b, byte(n>>(8*i)))
	}
	return b
}

// Of reads the number that b is; of more than eight bytes the last eight count.
func Of(b []byte) uint64 {
	n := uint64(0)
	for _, c := range b {
		n = n<<8 | uint64(c)
	}
	return n
}
