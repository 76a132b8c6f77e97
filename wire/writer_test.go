package wire

import (
	"bytes"
	"math"
	"testing"

	"maund/api"
)

// written is what a writer has behind some calls.
func written(do func(w *Writer)) []byte {
	var w Writer
	do(&w)
	return w.Bytes()
}

// P2.1: a number's bytes.
func TestWriteNum(t *testing.T) {
	for _, c := range []struct {
		n    uint64
		want string
	}{
		{0, "\x00"}, {1, "\x01\x01"}, {255, "\x01\xff"}, {256, "\x02\x01\x00"}, {300, "\x02\x01\x2c"}, {65535, "\x02\xff\xff"},
		{65536, "\x03\x01\x00\x00"}, {1 << 24, "\x04\x01\x00\x00\x00"}, {1 << 32, "\x05\x01\x00\x00\x00\x00"},
		{1 << 40, "\x06\x01\x00\x00\x00\x00\x00"}, {1 << 48, "\x07\x01\x00\x00\x00\x00\x00\x00"},
		{1<<56 - 1, "\x07\xff\xff\xff\xff\xff\xff\xff"}, {1 << 56, "\x08\x01\x00\x00\x00\x00\x00\x00\x00"},
		{0x0102030405060708, "\x08\x01\x02\x03\x04\x05\x06\x07\x08"}, {math.MaxUint64, "\x08\xff\xff\xff\xff\xff\xff\xff\xff"},
	} {
		if got := written(func(w *Writer) { w.Num(c.n) }); string(got) != c.want {
			t.Errorf("Num(%d): %x, want %x", c.n, got, c.want)
		}
	}
}

// P2.1: a whole number's bytes, those that no reader takes too.
func TestWriteInt(t *testing.T) {
	for _, c := range []struct {
		n    int
		want uint64
	}{
		{0, 0}, {1, 2}, {2, 4}, {1000, 2000}, {-1, 1}, {-2, 3}, {-1000, 1999},
		{1 << 62, 1 << 63}, {-1 << 62, 1<<63 - 1}, {1<<62 + 1, 1<<63 + 2}, {-1<<62 - 1, 1<<63 + 1},
		{math.MaxInt, math.MaxUint64 - 1}, {math.MinInt + 1, math.MaxUint64 - 2}, {math.MinInt, math.MaxUint64},
	} {
		got := written(func(w *Writer) { w.Int(c.n) })
		if want := written(func(w *Writer) { w.Num(c.want) }); !bytes.Equal(got, want) {
			t.Errorf("Int(%d): %x, want %x", c.n, got, want)
		}
	}
	if got := written(func(w *Writer) { w.Int(-1) }); string(got) != "\x01\x01" {
		t.Errorf("Int(-1): %x", got)
	}
}

// P2.1: texts, digests, vectors.
func TestWriteOthers(t *testing.T) {
	for _, c := range []struct{ text, want string }{{"", "\x00"}, {"a", "\x01\x01a"}, {"\x00\x00", "\x01\x02\x00\x00"}} {
		if got := written(func(w *Writer) { w.Text([]byte(c.text)) }); string(got) != c.want {
			t.Errorf("Text(%q): %x, want %x", c.text, got, c.want)
		}
	}
	if got := written(func(w *Writer) { w.Text(nil) }); string(got) != "\x00" {
		t.Errorf("Text(nil): %x", got)
	}
	long := bytes.Repeat([]byte{7}, 300)
	if got := written(func(w *Writer) { w.Text(long) }); string(got) != "\x02\x01\x2c"+string(long) {
		t.Errorf("Text of 300 bytes: %x", got)
	}
	d := someDigest()
	if got := written(func(w *Writer) { w.Digest(d) }); string(got) != string(d[:]) {
		t.Errorf("Digest: %x", got)
	}
	v := api.Vec{0, 1, 300, 0, 0, 0, 0, math.MaxUint64}
	if got := written(func(w *Writer) { w.Vec(v) }); string(got) != "\x00\x01\x01\x02\x01\x2c\x00\x00\x00\x00\x08\xff\xff\xff\xff\xff\xff\xff\xff" {
		t.Errorf("Vec: %x", got)
	}
	if got := written(func(w *Writer) { w.Vec(api.Vec{}) }); string(got) != "\x00\x00\x00\x00\x00\x00\x00\x00" {
		t.Errorf("Vec of noughts: %x", got)
	}
}

func someDigest() api.Digest {
	var d api.Digest
	for i := range d {
		d[i] = byte(i * 9)
	}
	return d
}

// P2.1: each behind the others.
func TestWriteBehind(t *testing.T) {
	var w Writer
	if len(w.Bytes()) != 0 {
		t.Errorf("the zero value: %x", w.Bytes())
	}
	want := ""
	d := someDigest()
	for i := range 100 {
		w.Num(uint64(i))
		w.Int(-i)
		w.Text([]byte{byte(i)})
		w.Digest(d)
		w.Vec(api.Vec{3: 9})
		want += string(written(func(w *Writer) { w.Num(uint64(i)) })) + string(written(func(w *Writer) { w.Int(-i) })) +
			"\x01\x01" + string([]byte{byte(i)}) + string(d[:]) + "\x00\x00\x00\x01\x09\x00\x00\x00\x00"
		if string(w.Bytes()) != want {
			t.Fatalf("%d: %x, want %x", i, w.Bytes(), want)
		}
	}
}

// P2.1: of nil nothing.
func TestWriterNil(t *testing.T) {
	var w *Writer
	w.Num(1)
	w.Int(1)
	w.Int(-1)
	w.Text([]byte("a"))
	w.Digest(api.Digest{1})
	w.Vec(api.Vec{1})
	if len(w.Bytes()) != 0 {
		t.Errorf("nil: %x", w.Bytes())
	}
}

// Rules 4 and 5: what is handed in is neither changed nor kept, and what is handed out is new.
func TestWriterMemory(t *testing.T) {
	text := []byte("abcdef")
	var w Writer
	w.Text(text[:3])
	text[0] = 'x'
	w.Num(5)
	if string(text) != "xbcdef" {
		t.Errorf("the text was changed: %q", text)
	}
	one := w.Bytes()
	if string(one) != "\x01\x03abc\x01\x05" {
		t.Fatalf("Bytes: %x", one)
	}
	one[0] = 99
	two := w.Bytes()
	if string(two) != "\x01\x03abc\x01\x05" {
		t.Errorf("Bytes are not new: %x", two)
	}
	w.Num(7)
	if string(two[:cap(two)]) != "\x01\x03abc\x01\x05" {
		t.Errorf("there is something behind: %x", two[:cap(two)])
	}
	_ = append(two, 42)
	if string(w.Bytes()) != "\x01\x03abc\x01\x05\x01\x07" {
		t.Errorf("Bytes share memory: %x", w.Bytes())
	}
}
