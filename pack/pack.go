// Package pack is layer 1: numbers and texts as bytes. See shared/doc/01-pack.md.
package pack

const (
	bits    = 7      // of a number in each of its bytes
	more    = 1 << 7 // set in a byte that is not a number's last one
	longest = 10     // bytes of a number: as many as 64 bits need
	topmost = 1      // in the byte at longest there is room for but one bit more
)

// turn gives numbers near 0, on either side, few bytes.
func turn(n int64) uint64 {
	return uint64(n)<<1 ^ uint64(n>>63)
}

// back undoes turn.
func back(n uint64) int64 {
	return int64(n>>1) ^ -int64(n&1)
}
