package sha

import "maund/api"

// blockSize is how many bytes a block has.
const blockSize = 64

// steps is how many steps a block takes.
const steps = 64

// begin is what the eight words begin as.
var begin = [8]uint32{
	0x6A09E667, 0xBB67AE85, 0x3C6EF372, 0xA54FF53A, 0x510E527F, 0x9B05688C, 0x1F83D9AB, 0x5BE0CD19,
}

// k is the word that each step of a block adds.
var k = [steps]uint32{
	0x428A2F98, 0x71374491, 0xB5C0FBCF, 0xE9B5DBA5, 0x3956C25B, 0x59F111F1, 0x923F82A4, 0xAB1C5ED5,
	0xD807AA98, 0x12835B01, 0x243185BE, 0x550C7DC3, 0x72BE5D74, 0x80DEB1FE, 0x9BDC06A7, 0xC19BF174,
	0xE49B69C1, 0xEFBE4786, 0x0FC19DC6, 0x240CA1CC, 0x2DE92C6F, 0x4A7484AA, 0x5CB0A9DC, 0x76F988DA,
	0x983E5152, 0xA831C66D, 0xB00327C8, 0xBF597FC7, 0xC6E00BF3, 0xD5A79147, 0x06CA6351, 0x14292967,
	0x27B70A85, 0x2E1B2138, 0x4D2C6DFC, 0x53380D13, 0x650A7354, 0x766A0ABB, 0x81C2C92E, 0x92722C85,
	0xA2BFE8A1, 0xA81A664B, 0xC24B8B70, 0xC76C51A3, 0xD192E819, 0xD6990624, 0xF40E3585, 0x106AA070,
	0x19A4C116, 0x1E376C08, 0x2748774C, 0x34B0BCB5, 0x391C0CB3, 0x4ED8AA4A, 0x5B9CCA4F, 0x682E6FF3,
	0x748F82EE, 0x78A5636F, 0x84C87814, 0x8CC70208, 0x90BEFFFA, 0xA4506CEB, 0xBEF9A3F7, 0xC67178F2,
}

// run is a digest under way.
type run struct {
	h      [8]uint32
	block  [blockSize]byte
	filled int
	bytes  uint64
	blocks uint64
}

// add puts bytes behind those that there were. Pieces are taken as they come, so that none is put together with another one elsewhere.
func (r *run) add(b []byte) {
	r.bytes += uint64(len(b))
	r.fill(b)
}

// fill puts bytes into blocks, without counting them as the text's.
func (r *run) fill(b []byte) {
	for len(b) > 0 {
		n := copy(r.block[r.filled:], b)
		b = b[n:]
		r.filled += n
		if r.filled == blockSize {
			r.mix()
			r.filled = 0
		}
	}
}

// end fills up the last block.
func (r *run) end() {
	var tail [blockSize + 8]byte
	tail[0] = 0x80
	// 55 bytes leave room for 80 and the length in their block, without a nought.
	noughts := (blockSize + 55 - r.filled) % blockSize
	at := 1 + noughts
	bits := r.bytes * 8
	for i := 0; i < 8; i++ {
		tail[at+i] = byte(bits >> (56 - 8*i))
	}
	r.fill(tail[:at+8])
}

// mix works a whole block into the eight words.
func (r *run) mix() {
	w := words(r.block)
	a, b, c, d, e, f, g, h := r.h[0], r.h[1], r.h[2], r.h[3], r.h[4], r.h[5], r.h[6], r.h[7]
	for t := 0; t < steps; t++ {
		x := h + (turn(e, 6) ^ turn(e, 11) ^ turn(e, 25)) + (e&f ^ ^e&g) + k[t] + w[t]
		y := (turn(a, 2) ^ turn(a, 13) ^ turn(a, 22)) + (a&b ^ a&c ^ b&c)
		h, g, f, e, d, c, b, a = g, f, e, d+x, c, b, a, x+y
	}
	now := [8]uint32{a, b, c, d, e, f, g, h}
	for i := range now {
		r.h[i] += now[i]
	}
	r.blocks++
}

// words is a block's 16 words, and the 48 that follow from them.
func words(block [blockSize]byte) [steps]uint32 {
	var w [steps]uint32
	for t := 0; t < 16; t++ {
		w[t] = uint32(block[4*t])<<24 | uint32(block[4*t+1])<<16 | uint32(block[4*t+2])<<8 | uint32(block[4*t+3])
	}
	for t := 16; t < steps; t++ {
		s0 := turn(w[t-15], 7) ^ turn(w[t-15], 18) ^ w[t-15]>>3
		s1 := turn(w[t-2], 17) ^ turn(w[t-2], 19) ^ w[t-2]>>10
		w[t] = w[t-16] + s0 + w[t-7] + s1
	}
	return w
}

// turn is x turned right by n, which is from 1 to 31.
func turn(x uint32, n uint) uint32 { return x>>n | x<<(32-n) }

// digest is the eight words, the greatest byte first.
func (r *run) digest() api.Digest {
	var d api.Digest
	for i, x := range r.h {
		d[4*i] = byte(x >> 24)
		d[4*i+1] = byte(x >> 16)
		d[4*i+2] = byte(x >> 8)
		d[4*i+3] = byte(x)
	}
	return d
}
