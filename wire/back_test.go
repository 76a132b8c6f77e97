package wire

import (
	"bytes"
	"math"
	"testing"

	"maund/api"
)

// P2.3: numbers at each edge are read as they were.
func TestNumBack(t *testing.T) {
	for bit := range 65 {
		for _, less := range []uint64{0, 1, 2} {
			n := uint64(1)<<bit - less // 0 for the bit 64, so that the greatest ones come too
			r := From(written(func(w *Writer) { w.Num(n) }))
			if got := r.Num(); got != n || r.End() != api.OK {
				t.Errorf("Num(%d): %d, %v", n, got, r.End())
			}
			if n > math.MaxInt {
				continue
			}
			r = From(written(func(w *Writer) { w.Num(n) }))
			if got := r.Small(int(n)); got != int(n) || r.End() != api.OK {
				t.Errorf("Small(%d): %d, %v", n, got, r.End())
			}
			r = From(written(func(w *Writer) { w.Num(n) }))
			if got := r.Small(int(n) - 1); got != 0 || r.End() != api.ErrForm {
				t.Errorf("Small(%d - 1): %d, %v", n, got, r.End())
			}
		}
	}
}

// P2.3: whole numbers from -2^62 to 2^62 are read as they were; those beyond are a fault of the form (P2.2).
func TestIntBack(t *testing.T) {
	for bit := range 63 {
		for _, add := range []int{-1, 0, 1} {
			for _, n := range []int{1<<bit + add, -(1<<bit + add)} {
				r := From(written(func(w *Writer) { w.Int(n) }))
				got := r.Int()
				if n < -1<<62 || n > 1<<62 {
					if got != 0 || r.End() != api.ErrForm {
						t.Errorf("Int(%d): %d, %v", n, got, r.End())
					}
				} else if got != n || r.End() != api.OK {
					t.Errorf("Int(%d): %d, %v", n, got, r.End())
				}
			}
		}
	}
	for _, n := range []int{math.MaxInt, math.MinInt, math.MinInt + 1} {
		r := From(written(func(w *Writer) { w.Int(n) }))
		if got := r.Int(); got != 0 || r.End() != api.ErrForm {
			t.Errorf("Int(%d): %d, %v", n, got, r.End())
		}
	}
}

// P2.3: texts of many lengths are read as they were.
func TestTextBack(t *testing.T) {
	for n := range 600 {
		text := bytes.Repeat([]byte{byte(n)}, n)
		b := written(func(w *Writer) { w.Text(text) })
		r := From(b)
		if got := r.Text(n); !bytes.Equal(got, text) || r.End() != api.OK {
			t.Fatalf("a text of %d bytes: %d bytes, %v", n, len(got), r.End())
		}
		r = From(b)
		if got := r.Text(n - 1); len(got) != 0 || r.End() != api.ErrForm {
			t.Fatalf("a text of %d bytes, one more than may be: %d bytes, %v", n, len(got), r.End())
		}
	}
}

// again is how each of the calls reads something, and writes it again.
func again() map[string]func(r *Reader, w *Writer) {
	return map[string]func(r *Reader, w *Writer){
		"Num":    func(r *Reader, w *Writer) { w.Num(r.Num()) },
		"Small":  func(r *Reader, w *Writer) { w.Num(uint64(r.Small(1000))) },
		"Int":    func(r *Reader, w *Writer) { w.Int(r.Int()) },
		"Text":   func(r *Reader, w *Writer) { w.Text(r.Text(5)) },
		"Digest": func(r *Reader, w *Writer) { w.Digest(r.Digest()) },
		"Vec":    func(r *Reader, w *Writer) { w.Vec(r.Vec()) },
	}
}

// oneWay holds what was read, and written again, against the bytes that it was read from.
func oneWay(t *testing.T, b []byte) {
	for name, call := range again() {
		var w Writer
		r := From(b)
		call(r, &w)
		if r.Err() != api.OK {
			continue
		}
		if got := w.Bytes(); !bytes.Equal(got, b[:len(b)-r.Left()]) {
			t.Fatalf("%s of %x: written again %x", name, b, got)
		}
	}
}

// P2.3: whatever is read, written again, is the same bytes: all bytes that begin so.
func TestOneWay(t *testing.T) {
	for x := range 256 {
		oneWay(t, []byte{byte(x)})
		for y := range 256 {
			oneWay(t, []byte{byte(x), byte(y)})
			oneWay(t, []byte{2, byte(x), byte(y)})
			oneWay(t, []byte{8, byte(x), byte(y), 3, 4, 5, 6, 7, 8})
		}
	}
	x := uint32(7)
	for range 20000 {
		b := make([]byte, 40)
		for i := range b {
			x = x*1664525 + 1013904223
			b[i] = byte(x>>24) >> (x >> 8 % 8) // small ones oftener, for they begin a number
		}
		oneWay(t, b)
	}
}

// P2 of the whole: cut anywhere, it is nothing.
func TestCut(t *testing.T) {
	whole := map[string][]byte{
		"Num":    written(func(w *Writer) { w.Num(math.MaxUint64) }),
		"Small":  written(func(w *Writer) { w.Num(999) }),
		"Int":    written(func(w *Writer) { w.Int(-1 << 60) }),
		"Text":   written(func(w *Writer) { w.Text([]byte("abcde")) }),
		"Digest": written(func(w *Writer) { w.Digest(someDigest()) }),
		"Vec":    written(func(w *Writer) { w.Vec(api.Vec{1, 2, 3, 300, 0, 5, 0, 1 << 40}) }),
	}
	for name, call := range again() {
		b := whole[name]
		for n := range b {
			var w Writer
			r := From(b[:n])
			call(r, &w)
			if r.Err() != api.ErrShort || r.End() != api.ErrShort || r.Left() != 0 {
				t.Errorf("%s, cut at %d: %v", name, n, r.Err())
			}
		}
		var w Writer
		r := From(b)
		call(r, &w)
		if r.End() != api.OK || !bytes.Equal(w.Bytes(), b) {
			t.Errorf("%s, whole: %v", name, r.End())
		}
	}
}

// P1 of the whole: no bytes let a reader panic, in whatever order it is asked.
func FuzzReader(f *testing.F) {
	f.Add([]byte("\x02\x01\x2c\x01\x01\x01\x01a"), []byte{0, 1, 2, 3, 4, 5}, 3)
	f.Add([]byte("\x08\xff\xff\xff\xff\xff\xff\xff\xff"), []byte{3}, math.MaxInt)
	f.Add([]byte("\x00"), []byte{1}, math.MinInt)
	f.Fuzz(func(t *testing.T, b, order []byte, most int) {
		r := From(b)
		for _, x := range order {
			ask(r, x, most)
		}
		if r.Left() < 0 || r.Left() > len(b) || r.Err() != api.OK && r.End() != r.Err() {
			t.Fatalf("%d left, %v, %v", r.Left(), r.Err(), r.End())
		}
		oneWay(t, b)
	})
}

// ask is one of a reader's calls.
func ask(r *Reader, which byte, most int) {
	switch which % 7 {
	case 0:
		r.Num()
	case 1:
		r.Small(most)
	case 2:
		r.Int()
	case 3:
		r.Text(most)
	case 4:
		r.Digest()
	case 5:
		r.Vec()
	case 6:
		r.Must(which < 200)
	}
}
