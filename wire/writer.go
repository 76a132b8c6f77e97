package wire

import (
	"math/bits"

	"maund/api"
)

// Writer writes numbers and texts as bytes, each behind the others. Its zero value is one.
type Writer struct {
	b []byte
}

// Num writes a number: how many bytes it has, and these, the greatest first.
func (w *Writer) Num(n uint64) {
	if w == nil {
		return
	}
	left := (bits.Len64(n) + 7) / 8
	w.b = append(w.b, byte(left))
	for left > 0 {
		left--
		w.b = append(w.b, byte(n>>(8*left)))
	}
}

// Int writes a whole number: twice it, or, below 0, twice what it is below 0, less 1.
func (w *Writer) Int(n int) {
	if n >= 0 {
		w.Num(uint64(n) * 2)
		return
	}
	// What the least int is below 0 is no int: n + 1 is turned round in its place.
	w.Num(uint64(-(n+1))*2 + 1)
}

// Text writes how many bytes a text has, and these.
func (w *Writer) Text(b []byte) {
	if w == nil {
		return
	}
	w.Num(uint64(len(b)))
	w.b = append(w.b, b...)
}

// Digest writes a digest's bytes.
func (w *Writer) Digest(d api.Digest) {
	if w == nil {
		return
	}
	w.b = append(w.b, d[:]...)
}

// Vec writes a vector's numbers, in order.
func (w *Writer) Vec(v api.Vec) {
	for _, n := range v {
		w.Num(n)
	}
}

// Bytes is all that was written, in new memory.
func (w *Writer) Bytes() []byte {
	if w == nil {
		return nil
	}
	return fresh(w.b)
}
