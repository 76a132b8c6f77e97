package vec

import (
	"bytes"
	"math"
	"testing"

	"maund/api"
	"maund/wire"
)

// wrongDots are such as may not be.
func wrongDots() []Dot {
	return []Dot{
		{}, {0, 1}, {-1, 1}, {9, 1}, {0, math.MaxUint64}, {1, 0}, {8, 0}, {9, 0}, {-1, 0},
		{math.MaxInt, 5}, {math.MinInt, 5}, {1 << 32, 1}, {1<<32 + 1, 1}, {256 + 1, 1}, {-8, 2},
	}
}

// rightDots are such as may be, in order.
func rightDots() []Dot {
	return []Dot{
		{1, 1}, {1, 2}, {1, 256}, {1, math.MaxUint64},
		{2, 1}, {2, 3}, {3, 1 << 63}, {4, 255}, {5, 1}, {6, 7}, {7, 1<<32 + 1},
		{8, 1}, {8, math.MaxUint64 - 1}, {8, math.MaxUint64},
	}
}

// written is what one writes.
func written(do func(w *wire.Writer)) []byte {
	var w wire.Writer
	do(&w)
	return w.Bytes()
}

// P3.1: nodes from 1 to MaxNodes, and events from 1 on.
func TestRight(t *testing.T) {
	for _, d := range rightDots() {
		if !Right(d) {
			t.Errorf("%v may not be", d)
		}
	}
	for node := 1; node <= api.MaxNodes; node++ {
		if !Right(Dot{node, 1}) {
			t.Errorf("the first event of %d may not be", node)
		}
	}
	for _, d := range wrongDots() {
		if Right(d) {
			t.Errorf("%v may be", d)
		}
	}
}

// P3.1: by Node, then N; also of those that may not be.
func TestLess(t *testing.T) {
	l := append([]Dot{{math.MinInt, math.MaxUint64}, {-1, 7}, {0, 0}, {0, 1}, {1, 0}}, rightDots()...)
	l = append(l, Dot{9, 0}, Dot{9, 5}, Dot{math.MaxInt, 0})
	for i, a := range l {
		for j, b := range l {
			if got, want := Less(a, b), i < j; got != want {
				t.Errorf("Less of %v and %v: %v", a, b, got)
			}
		}
	}
}

// P3.2: Node and N as numbers, behind others; a Node below 0 as 0.
func TestPut(t *testing.T) {
	for _, c := range []struct {
		d    Dot
		want string
	}{
		{Dot{1, 1}, "\x01\x01\x01\x01"},
		{Dot{8, 300}, "\x01\x08\x02\x01\x2c"},
		{Dot{2, math.MaxUint64}, "\x01\x02\x08\xff\xff\xff\xff\xff\xff\xff\xff"},
		{Dot{}, "\x00\x00"},
		{Dot{-1, 5}, "\x00\x01\x05"},
		{Dot{math.MinInt, 0}, "\x00\x00"},
		{Dot{9, 0}, "\x01\x09\x00"},
		{Dot{300, 1}, "\x02\x01\x2c\x01\x01"},
		{Dot{math.MaxInt, 1}, "\x08\x7f\xff\xff\xff\xff\xff\xff\xff\x01\x01"},
	} {
		if got := written(func(w *wire.Writer) { Put(w, c.d) }); string(got) != c.want {
			t.Errorf("Put %v: %x, want %x", c.d, got, c.want)
		}
	}
	got := written(func(w *wire.Writer) {
		w.Num(7)
		Put(w, Dot{1, 2})
		Put(w, Dot{3, 4})
	})
	if string(got) != "\x01\x07\x01\x01\x01\x02\x01\x03\x01\x04" {
		t.Errorf("Put behind others: %x", got)
	}
	Put(nil, Dot{1, 1})
}

// P3.2: what was put is taken, and what is behind it stays.
func TestTake(t *testing.T) {
	for _, d := range rightDots() {
		b := written(func(w *wire.Writer) { Put(w, d); w.Num(77) })
		r := wire.From(b)
		if got := Take(r); got != d || r.Err() != api.OK || r.Left() != 2 {
			t.Errorf("Take of %x: %v, %v, left %d", b, got, r.Err(), r.Left())
		}
		if n := r.Num(); n != 77 || r.End() != api.OK {
			t.Errorf("behind %v: %d, %v", d, n, r.End())
		}
	}
}

// P3.2: faults, of which what stands ahead is told.
func TestTakeFaults(t *testing.T) {
	for _, c := range []struct {
		b    string
		want api.Errno
	}{
		{"", api.ErrShort},
		{"\x01", api.ErrShort},
		{"\x01\x01", api.ErrShort},
		{"\x01\x01\x02\x01", api.ErrShort},
		{"\x00", api.ErrShort}, // the N that is missing stands ahead of what a node 0 is held against
		{"\x00\x01\x01", api.ErrForm},
		{"\x00\x00", api.ErrForm},
		{"\x01\x01\x00", api.ErrForm},
		{"\x01\x08\x00", api.ErrForm},
		{"\x01\x09", api.ErrForm}, // too great a node is one of Small, ahead of the N
		{"\x01\x09\x01\x01", api.ErrForm},
		{"\x02\x01\x01\x01\x01", api.ErrForm},
		{"\x08\xff\xff\xff\xff\xff\xff\xff\xff\x01\x01", api.ErrForm},
		{"\x01\x00\x01\x01", api.ErrForm},
		{"\x01\x01\x01\x00", api.ErrForm},
		{"\x09", api.ErrForm},
		{"\x01\x01\x09", api.ErrForm},
	} {
		r := wire.From([]byte(c.b))
		if got := Take(r); got != (Dot{}) || r.Err() != c.want || r.End() != c.want || r.Left() != 0 {
			t.Errorf("Take of %x: %v, %v, want %v", c.b, got, r.Err(), c.want)
		}
	}
}

// P3.2: behind a fault, and without a reader, there is no dot.
func TestTakeNothing(t *testing.T) {
	r := wire.From([]byte("\x01\x01\x01\x01\x01\x01\x01\x01"))
	r.Must(false)
	if got := Take(r); got != (Dot{}) || r.Err() != api.ErrForm {
		t.Errorf("behind a fault: %v, %v", got, r.Err())
	}
	short := wire.From(nil)
	short.Num()
	if got := Take(short); got != (Dot{}) || short.Err() != api.ErrShort {
		t.Errorf("behind a fault: %v, %v", got, short.Err())
	}
	if got := Take(nil); got != (Dot{}) {
		t.Errorf("of nil: %v", got)
	}
	if got := Take(&wire.Reader{}); got != (Dot{}) {
		t.Errorf("of a reader that was not made: %v", got)
	}
}

// P2 of the whole: whatever is taken, put again, is the same bytes; cut anywhere, it is nothing.
func TestTakeOneWay(t *testing.T) {
	for _, d := range rightDots() {
		b := written(func(w *wire.Writer) { Put(w, d) })
		for n := range b {
			r := wire.From(b[:n])
			if got := Take(r); got != (Dot{}) || r.Err() != api.ErrShort {
				t.Errorf("%v, cut at %d: %v, %v", d, n, got, r.Err())
			}
		}
	}
	for x := range 1 << 16 {
		b := []byte{1, byte(x), 1, byte(x >> 8), 0}
		if x%3 == 0 {
			b = []byte{byte(x % 4), byte(x >> 8), byte(x >> 4 % 4), byte(x), 1}
		}
		r := wire.From(b)
		d := Take(r)
		if r.Err() != api.OK {
			if d != (Dot{}) {
				t.Fatalf("Take of %x: %v beside %v", b, d, r.Err())
			}
			continue
		}
		again := written(func(w *wire.Writer) { Put(w, d) })
		if !Right(d) || !bytes.Equal(again, b[:len(b)-r.Left()]) {
			t.Fatalf("Take of %x: %v, put again %x", b, d, again)
		}
	}
}
