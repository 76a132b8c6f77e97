package wire

import (
	"bytes"
	"math"
	"testing"

	"maund/api"
)

// calls are those of a reader that read something; each tells whether it told nothing.
func calls() map[string]func(r *Reader) bool {
	return map[string]func(r *Reader) bool{
		"Num":        func(r *Reader) bool { return r.Num() == 0 },
		"Small(9)":   func(r *Reader) bool { return r.Small(9) == 0 },
		"Small(0)":   func(r *Reader) bool { return r.Small(0) == 0 },
		"Small(-1)":  func(r *Reader) bool { return r.Small(-1) == 0 },
		"Int":        func(r *Reader) bool { return r.Int() == 0 },
		"Text(9)":    func(r *Reader) bool { return len(r.Text(9)) == 0 },
		"Text(0)":    func(r *Reader) bool { return len(r.Text(0)) == 0 },
		"Text(-1)":   func(r *Reader) bool { return len(r.Text(-1)) == 0 },
		"Text(most)": func(r *Reader) bool { return len(r.Text(math.MaxInt)) == 0 },
		"Digest":     func(r *Reader) bool { return r.Digest() == api.Digest{} },
		"Vec":        func(r *Reader) bool { return r.Vec() == api.Vec{} },
		"Must(true)": func(r *Reader) bool { r.Must(true); return true },
		"Must(not)":  func(r *Reader) bool { r.Must(false); return true },
		"Left":       func(r *Reader) bool { return r.Left() == 0 },
	}
}

// P2.2: what stands here, and on behind it.
func TestReadInOrder(t *testing.T) {
	d := someDigest()
	v := api.Vec{1, 0, math.MaxUint64, 256}
	r := From(written(func(w *Writer) {
		w.Num(300)
		w.Num(7)
		w.Int(-1)
		w.Text([]byte("abc"))
		w.Digest(d)
		w.Vec(v)
		w.Text(nil)
	}))
	if left := r.Left(); left != 3+2+2+5+32+19+1 {
		t.Errorf("Left: %d", left)
	}
	if n := r.Num(); n != 300 || r.Left() != 62-1 {
		t.Errorf("Num: %d, left %d", n, r.Left())
	}
	if n := r.Small(7); n != 7 {
		t.Errorf("Small: %d", n)
	}
	if n := r.Int(); n != -1 {
		t.Errorf("Int: %d", n)
	}
	if b := r.Text(3); string(b) != "abc" {
		t.Errorf("Text: %q", b)
	}
	if r.Err() != api.OK || r.End() != api.ErrLong || r.Err() != api.OK {
		t.Errorf("on the way: %v, %v", r.Err(), r.End())
	}
	if got := r.Digest(); got != d {
		t.Errorf("Digest: %x", got)
	}
	if got := r.Vec(); got != v {
		t.Errorf("Vec: %v", got)
	}
	r.Must(true)
	if b := r.Text(0); len(b) != 0 {
		t.Errorf("Text: %q", b)
	}
	if r.Left() != 0 || r.Err() != api.OK || r.End() != api.OK {
		t.Errorf("at the end: %d left, %v, %v", r.Left(), r.Err(), r.End())
	}
	if r.Num() != 0 || r.Err() != api.ErrShort || r.End() != api.ErrShort {
		t.Errorf("behind the end: %v, %v", r.Err(), r.End())
	}
}

// fault is bytes, a call, and the fault that comes of it.
type fault struct {
	b    string
	call string
	want api.Errno
}

// P2.2: which fault, at each edge, and which comes first.
func faults() []fault {
	return []fault{
		{"", "Num", api.ErrShort}, {"\x01", "Num", api.ErrShort}, {"\x08\x01\x02\x03\x04\x05\x06\x07", "Num", api.ErrShort},
		{"\x09", "Num", api.ErrForm}, {"\xff", "Num", api.ErrForm}, {"\x09\x01\x01\x01\x01\x01\x01\x01\x01\x01", "Num", api.ErrForm},
		{"\x01\x00", "Num", api.ErrForm}, {"\x02\x00\x05", "Num", api.ErrForm}, {"\x08\x00\xff\xff\xff\xff\xff\xff\xff", "Num", api.ErrForm},
		{"\x02\x00", "Num", api.ErrShort}, // whether they are there, ahead of the first byte
		{"\x01\x09", "Num", api.OK}, {"\x08\xff\xff\xff\xff\xff\xff\xff\xff", "Num", api.OK},

		{"", "Small(9)", api.ErrShort}, {"\x01\x09", "Small(9)", api.OK}, {"\x01\x0a", "Small(9)", api.ErrForm},
		{"\x00", "Small(0)", api.OK}, {"\x01\x01", "Small(0)", api.ErrForm}, {"\x00", "Small(-1)", api.ErrForm},
		{"", "Small(-1)", api.ErrShort}, {"\x02\x05", "Small(0)", api.ErrShort}, {"\x01", "Small(-1)", api.ErrShort},
		{"\x08\xff\xff\xff\xff\xff\xff\xff\xff", "Small(9)", api.ErrForm}, {"\x08\x80\x00\x00\x00\x00\x00\x00\x00", "Small(9)", api.ErrForm},
		{"\x08\xff\xff\xff\xff\xff\xff\xff\xff", "Small(-1)", api.ErrForm}, {"\x01\x00", "Small(9)", api.ErrForm}, {"\x09", "Small(9)", api.ErrForm},

		{"\x08\x80\x00\x00\x00\x00\x00\x00\x00", "Int", api.OK}, {"\x08\x80\x00\x00\x00\x00\x00\x00\x01", "Int", api.ErrForm},
		{"\x08\x7f\xff\xff\xff\xff\xff\xff\xff", "Int", api.OK}, {"\x08\x80\x00\x00\x00\x00\x00\x00\x02", "Int", api.ErrForm},
		{"\x08\xff\xff\xff\xff\xff\xff\xff\xff", "Int", api.ErrForm}, {"\x08\xff\xff\xff\xff\xff\xff\xff", "Int", api.ErrShort},
		{"", "Int", api.ErrShort}, {"\x01\x00", "Int", api.ErrForm}, {"\x09", "Int", api.ErrForm},

		{"", "Text(9)", api.ErrShort}, {"\x00", "Text(0)", api.OK}, {"\x01\x01", "Text(0)", api.ErrForm}, {"\x01\x01a", "Text(0)", api.ErrForm},
		{"\x00", "Text(-1)", api.ErrForm}, {"", "Text(-1)", api.ErrShort}, {"\x01\x09aaaaaaaaa", "Text(9)", api.OK},
		{"\x01\x09aaaaaaaa", "Text(9)", api.ErrShort}, {"\x01\x0aaaaaaaaaaa", "Text(9)", api.ErrForm},
		{"\x01\x0a", "Text(9)", api.ErrForm}, // how many there are, ahead of the bytes
		{"\x08\xff\xff\xff\xff\xff\xff\xff\xff", "Text(most)", api.ErrForm}, {"\x08\x80\x00\x00\x00\x00\x00\x00\x00", "Text(most)", api.ErrForm},
		{"\x08\x7f\xff\xff\xff\xff\xff\xff\xff", "Text(most)", api.ErrShort}, {"\x01\x00", "Text(9)", api.ErrForm},

		{"", "Digest", api.ErrShort}, {string(make([]byte, 31)), "Digest", api.ErrShort}, {string(make([]byte, 32)), "Digest", api.OK},
		{"", "Vec", api.ErrShort}, {"\x01\x05\x00\x00\x00\x00\x00\x00", "Vec", api.ErrShort}, {"\x01\x05\x09", "Vec", api.ErrForm},
		{"\x01\x05\x00\x00\x00\x00\x00\x00\x01\x00", "Vec", api.ErrForm}, {"\x00\x00\x00\x00\x00\x00\x00\x00", "Vec", api.OK},

		{"", "Must(true)", api.OK}, {"", "Must(not)", api.ErrForm}, {"\x05", "Must(not)", api.ErrForm}, {"", "Left", api.OK},
	}
}

func TestFaults(t *testing.T) {
	all := calls()
	for _, c := range faults() {
		r := From([]byte(c.b))
		nothing := all[c.call](r)
		if r.Err() != c.want {
			t.Errorf("%x, %s: %v, want %v", c.b, c.call, r.Err(), c.want)
		}
		if c.want == api.OK {
			continue
		}
		if !nothing || r.End() != c.want || r.Left() != 0 {
			t.Errorf("%x, %s: told nothing: %v; End %v, left %d", c.b, c.call, nothing, r.End(), r.Left())
		}
	}
}

// P2.2: the first fault stays, and all calls behind it tell nothing, though there are bytes.
func TestFaultStays(t *testing.T) {
	rest := string(bytes.Repeat([]byte{1, 5}, 40))
	for name, call := range calls() {
		for _, first := range []string{"\x02\x00\x05", "\x09"} {
			r := From([]byte(first + rest))
			r.Num()
			if !call(r) || r.Err() != api.ErrForm || r.End() != api.ErrForm || r.Left() != 0 {
				t.Errorf("%s behind a fault of the form: %v", name, r.Err())
			}
		}
		r := From([]byte("\x00\x08\x01"))
		r.Num()
		r.Num()
		if !call(r) || r.Err() != api.ErrShort || r.End() != api.ErrShort || r.Left() != 0 {
			t.Errorf("%s behind bytes that are missing: %v", name, r.Err())
		}
		r = From([]byte(rest))
		r.Must(false)
		if !call(r) || r.Err() != api.ErrForm || r.End() != api.ErrForm || r.Left() != 0 {
			t.Errorf("%s behind Must: %v", name, r.Err())
		}
	}
}

// P2.2: that bytes are left is no fault that stays.
func TestEnd(t *testing.T) {
	r := From([]byte("\x01\x05\x00"))
	if r.End() != api.ErrLong || r.Err() != api.OK || r.Num() != 5 || r.End() != api.ErrLong || r.Left() != 1 {
		t.Errorf("bytes are left: %v", r.Err())
	}
	if r.Num() != 0 || r.End() != api.OK {
		t.Errorf("none are left: %v", r.End())
	}
	for _, b := range [][]byte{nil, {}} {
		if r := From(b); r == nil || r.End() != api.OK || r.Err() != api.OK || r.Left() != 0 {
			t.Error("no bytes: there is a fault")
		}
	}
}

// P2.2: of a reader that is nil, or that From did not make.
func TestNoReader(t *testing.T) {
	for name, call := range calls() {
		for _, r := range []*Reader{nil, new(Reader)} {
			if !call(r) || r.Err() != api.ErrNil || r.End() != api.ErrNil || r.Left() != 0 {
				t.Errorf("%s: %v, %v, %d left", name, r.Err(), r.End(), r.Left())
			}
		}
	}
}

// Rule 5: bytes that are handed in are neither kept nor changed, texts are new.
func TestReaderMemory(t *testing.T) {
	b := []byte("\x01\x03abc\x01\x02de")
	was := bytes.Clone(b)
	r := From(b)
	text := r.Text(9)
	if !bytes.Equal(b, was) {
		t.Errorf("bytes were changed: %x", b)
	}
	if string(text) != "abc" || string(text[:cap(text)]) != "abc" {
		t.Errorf("Text: %q, behind it %q", text, text[:cap(text)])
	}
	text[0] = 'x'
	_ = append(text, 9, 9, 9)
	if !bytes.Equal(b, was) {
		t.Errorf("the text is no new memory: %x", b)
	}
	other := From(was)
	copied := *other
	other.Text(9)[0] = 'x'
	if got := copied.Text(9); string(got) != "abc" {
		t.Errorf("the text is the reader's own memory: %q", got)
	}
	b[7] = 'z'
	if got := r.Text(9); string(got) != "de" {
		t.Errorf("bytes were kept: %q", got)
	}
	if r := From(was[:2]); len(r.Text(9)) != 0 || r.Err() != api.ErrShort {
		t.Errorf("what lies behind was read: %v", r.Err())
	}
}
