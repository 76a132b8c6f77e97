// Package wire is layer 2, numbers and texts as bytes, and back, in one way alone: see shared/doc/02-wire.md.
package wire

// mostBytes is how many bytes a number has at most, behind the one that counts them.
const mostBytes = 8

// mostTwice is the greatest number that stands for a whole number from -2^62 to 2^62: twice 2^62.
const mostTwice = 1 << 63

// fresh is the same bytes in new memory.
func fresh(b []byte) []byte {
	out := make([]byte, len(b))
	copy(out, b)
	return out
}
