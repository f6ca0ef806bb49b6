// Package number writes numbers as bytes on a disk, the least significant byte
// first.
package number

// Bytes returns a number modulo 256 to the power of size, in size bytes.
func Bytes(n uint64, size int) string {
	b := make([]byte, max(size, 0))
	for i := range b {
		b[i] = byte(n)
		n >>= 8
	}
	return string(b)
}

// Of returns the number that at most eight bytes stand for.
func Of(s string) uint64 {
	var n uint64
	for i := range len(s) {
		n = n<<8 | uint64(s[len(s)-1-i])
	}
	return n
}
