package dots

import (
	"bytes"
	"math"
	"testing"

	"maund/api"
	"maund/vec"
	"maund/wire"
)

// written is what one writes.
func written(do func(w *wire.Writer)) []byte {
	var w wire.Writer
	do(&w)
	return w.Bytes()
}

// put is a list's bytes.
func put(l []vec.Dot) []byte {
	return written(func(w *wire.Writer) { Put(w, l) })
}

// sets are some.
func sets() [][]vec.Dot {
	return [][]vec.Dot{
		nil,
		{dot(1, 1)},
		{dot(1, 1), dot(2, 3)},
		{dot(1, 2), dot(1, 300), dot(5, 1), dot(8, math.MaxUint64)},
		run(7, 1, 300),
		run(1, 1, 1999),
		run(8, 1<<40, 2000),
	}
}

// P4.2: how many dots, and these, whatever they are.
func TestPut(t *testing.T) {
	for _, c := range []struct {
		l    []vec.Dot
		want string
	}{
		{nil, "\x00"},
		{[]vec.Dot{}, "\x00"},
		{[]vec.Dot{dot(1, 1)}, "\x01\x01\x01\x01\x01\x01"},
		{[]vec.Dot{dot(2, 300), dot(1, 0), dot(-5, 1)}, "\x01\x03\x01\x02\x02\x01\x2c\x01\x01\x00\x00\x01\x01"},
	} {
		if got := put(c.l); string(got) != c.want {
			t.Errorf("Put %v: %x, want %x", c.l, got, c.want)
		}
	}
	if got := put(run(1, 1, 2001)); len(got) != 3+2*2001+2*255+3*(2001-255) || string(got[:3]) != "\x02\x07\xd1" {
		t.Errorf("Put of 2001: %d bytes, %x ..", len(got), got[:3])
	}
	got := written(func(w *wire.Writer) {
		w.Num(9)
		Put(w, []vec.Dot{dot(1, 1)})
		Put(w, nil)
	})
	if string(got) != "\x01\x09\x01\x01\x01\x01\x01\x01\x00" {
		t.Errorf("Put behind others: %x", got)
	}
	room := []vec.Dot{dot(1, 1), dot(2, 2)}
	if got := put(room[:1]); string(got) != "\x01\x01\x01\x01\x01\x01" {
		t.Errorf("Put has read behind its list: %x", got)
	}
	Put(nil, room)
}

// P4.2: what was put is taken, in new memory, and what is behind it stays.
func TestTake(t *testing.T) {
	for _, l := range sets() {
		b := written(func(w *wire.Writer) { Put(w, l); w.Num(77) })
		r := wire.From(b)
		got := Take(r)
		hold(t, "Take", got, l)
		if cap(got) != len(got) {
			t.Errorf("Take of %d dots: with room for %d", len(l), cap(got))
		}
		if n := r.Num(); n != 77 || r.End() != api.OK {
			t.Errorf("behind %d dots: %d, %v", len(l), n, r.End())
		}
	}
}

// P4.2: faults.
func TestTakeFaults(t *testing.T) {
	for _, c := range []struct {
		name string
		b    []byte
		want api.Errno
	}{
		{"no bytes", nil, api.ErrShort},
		{"a dot is missing", []byte("\x01\x01"), api.ErrShort},
		{"half a dot is missing", []byte("\x01\x01\x01\x01"), api.ErrShort},
		{"the last one is missing", []byte("\x01\x02\x01\x01\x01\x01"), api.ErrShort},
		{"a count that is no number", []byte("\x01\x00"), api.ErrForm},
		{"2001, with their bytes", put(run(1, 1, 2001)), api.ErrForm},
		{"2001, without", []byte("\x02\x07\xd1"), api.ErrForm},
		{"2000, without", []byte("\x02\x07\xd0"), api.ErrShort},
		{"a great count", []byte("\x08\xff\xff\xff\xff\xff\xff\xff\xff"), api.ErrForm},
		{"a dot that may not be", put([]vec.Dot{dot(0, 1)}), api.ErrForm},
		{"a dot that may not be, behind others", put([]vec.Dot{dot(1, 1), dot(2, 0)}), api.ErrForm},
		{"a dot that may not be, ahead of missing bytes", []byte("\x01\x03\x01\x01\x00"), api.ErrForm},
		{"too great a node", put([]vec.Dot{dot(9, 1)}), api.ErrForm},
		{"not in order", put([]vec.Dot{dot(1, 2), dot(1, 1)}), api.ErrForm},
		{"nodes not in order", put([]vec.Dot{dot(2, 1), dot(1, 2)}), api.ErrForm},
		{"one twice", put([]vec.Dot{dot(1, 1), dot(1, 1)}), api.ErrForm},
		{"not in order, ahead of missing bytes", []byte("\x01\x03\x01\x01\x01\x02\x01\x01\x01\x01"), api.ErrShort},
	} {
		r := wire.From(c.b)
		if got := Take(r); len(got) != 0 || r.Err() != c.want || r.End() != c.want {
			t.Errorf("%s: %v, %v, want %v", c.name, first(got), r.Err(), c.want)
		}
	}
}

// P4.2: behind a fault, and without a reader, there is nothing.
func TestTakeNothing(t *testing.T) {
	r := wire.From(put(sets()[2]))
	r.Must(false)
	if got := Take(r); len(got) != 0 || r.Err() != api.ErrForm {
		t.Errorf("behind a fault: %v, %v", got, r.Err())
	}
	if got := Take(nil); len(got) != 0 {
		t.Errorf("of nil: %v", got)
	}
	if got := Take(&wire.Reader{}); len(got) != 0 {
		t.Errorf("of a reader that was not made: %v", got)
	}
}

// P2 of the whole: cut anywhere, it is nothing.
func TestCut(t *testing.T) {
	for _, l := range sets()[:5] {
		b := put(l)
		for n := range b {
			r := wire.From(b[:n])
			if got := Take(r); len(got) != 0 || r.Err() != api.ErrShort {
				t.Fatalf("%v, cut at %d: %v, %v", first(l), n, first(got), r.Err())
			}
		}
	}
}

// P2 of the whole: whatever is taken is a set, and put again the same bytes.
func TestTakeOneWay(t *testing.T) {
	x := uint32(7)
	taken := 0
	for range 60000 {
		b := []byte{1, 0}
		x = x*1664525 + 1013904223
		for range x >> 16 % 4 {
			x = x*1664525 + 1013904223
			b = append(b, 1, byte(x>>28), 1, byte(x>>24&7))
			b[1]++
		}
		if b[1] == 0 {
			b = append(b, byte(x>>20&3))
		}
		r := wire.From(b)
		l := Take(r)
		if r.Err() != api.OK {
			if len(l) != 0 {
				t.Fatalf("Take of %x: %v beside %v", b, l, r.Err())
			}
			continue
		}
		taken += len(l)
		if !Right(l) || !bytes.Equal(put(l), b[:len(b)-r.Left()]) {
			t.Fatalf("Take of %x: %v, put again %x", b, l, put(l))
		}
	}
	if taken < 1000 {
		t.Fatalf("just %d dots were taken", taken)
	}
}
