// Package sha is layer 1, SHA-256 by hand: see shared/doc/01-sha.md.
package sha

import (
	"sync/atomic"

	"maund/api"
)

// Meter counts blocks. The number is atomic, so that one meter may serve several goroutines.
type Meter struct {
	blocks atomic.Uint64
}

// Sum is the digest of all bytes, one piece behind the other.
func Sum(l ...[]byte) api.Digest {
	d, _ := digest(l)
	return d
}

// Point is the first eight bytes of a digest, as a number, the greatest first.
func Point(b []byte) uint64 {
	d := Sum(b)
	p := uint64(0)
	for i := 0; i < 8; i++ {
		p = p<<8 | uint64(d[i])
	}
	return p
}

// Blocks is how many blocks n bytes make; 0, if n is below 0.
func Blocks(n int) uint64 {
	if n < 0 {
		return 0
	}
	// One byte of 80 and eight of the length are the least that is filled in.
	return (uint64(n)+8)/blockSize + 1
}

// Sum is the digest of all bytes; the meter counts their blocks.
func (m *Meter) Sum(l ...[]byte) api.Digest {
	d, blocks := digest(l)
	if m != nil {
		m.blocks.Add(blocks)
	}
	return d
}

// Count is how many blocks the meter's Sums had, in all.
func (m *Meter) Count() uint64 {
	if m == nil {
		return 0
	}
	return m.blocks.Load()
}

// digest is the digest of the pieces, and how many blocks they make.
func digest(l [][]byte) (api.Digest, uint64) {
	r := run{h: begin}
	for _, piece := range l {
		r.add(piece)
	}
	r.end()
	return r.digest(), r.blocks
}
