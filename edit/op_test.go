package edit

import (
	"bytes"
	"math"
	"testing"

	"maund/api"
	"maund/wire"
)

// P7.1: which ops may be.
func TestMay(t *testing.T) {
	for _, o := range rightOps() {
		if !May(o) {
			t.Errorf("%v may not be", o)
		}
	}
	for _, o := range wrongOps() {
		if May(o) {
			t.Errorf("%v may be", o)
		}
	}
}

// P7.1: each small op, told by what the words say.
func TestMayEach(t *testing.T) {
	for kind := -2; kind <= 7; kind++ {
		for item := -2; item <= 63; item++ {
			for _, qty := range []int{-1002, -1001, -1000, -999, -2, -1, 0, 1, 2, 999, 1000, 1001, 1002} {
				is := item >= 1 && item <= 60
				want := kind == 1 && is && qty != 0 && qty >= -1000 && qty <= 1000 ||
					kind == 2 && is && qty >= 0 && qty <= 1000 ||
					kind == 3 && is && qty == 0 ||
					kind == 4 && item == 0 && qty == 0
				if o := (Op{Kind: kind, Item: item, Qty: qty}); May(o) != want {
					t.Errorf("May of %v: %v", o, !want)
				}
			}
		}
	}
}

// P7.2: Kind and Item as numbers, what is below 0 as 0, Qty as a whole number; whatever op it is.
func TestPut(t *testing.T) {
	for _, c := range []struct {
		o    Op
		want string
	}{
		{add(5, 3), "\x01\x01\x01\x05\x01\x06"},
		{add(5, -3), "\x01\x01\x01\x05\x01\x05"},
		{add(60, 1000), "\x01\x01\x01\x3c\x02\x07\xd0"},
		{add(60, -1000), "\x01\x01\x01\x3c\x02\x07\xcf"},
		{set(7, 0), "\x01\x02\x01\x07\x00"},
		{remove(1), "\x01\x03\x01\x01\x00"},
		{clearAll(), "\x01\x04\x00\x00"},
		{Op{}, "\x00\x00\x00"},
		{Op{Kind: -1, Item: -7, Qty: -1}, "\x00\x00\x01\x01"},
		{Op{Kind: math.MinInt, Item: math.MinInt, Qty: math.MinInt}, "\x00\x00\x08\xff\xff\xff\xff\xff\xff\xff\xff"},
		{Op{Kind: 300, Item: math.MaxInt, Qty: 64}, "\x02\x01\x2c\x08\x7f\xff\xff\xff\xff\xff\xff\xff\x01\x80"},
	} {
		if got := written(func(w *wire.Writer) { Put(w, c.o) }); string(got) != c.want {
			t.Errorf("Put %v: %x, want %x", c.o, got, c.want)
		}
	}
	got := written(func(w *wire.Writer) {
		w.Num(9)
		Put(w, remove(2))
		Put(w, clearAll())
	})
	if string(got) != "\x01\x09\x01\x03\x01\x02\x00\x01\x04\x00\x00" {
		t.Errorf("Put behind others: %x", got)
	}
	Put(nil, add(1, 1))
}

// P7.2: what was put is taken, and what is behind it stays.
func TestTake(t *testing.T) {
	for _, o := range rightOps() {
		r := wire.From(written(func(w *wire.Writer) { Put(w, o); w.Num(77) }))
		if got := Take(r); got != o || r.Err() != api.OK || r.Left() != 2 {
			t.Errorf("Take of %v: %v, %v, left %d", o, got, r.Err(), r.Left())
		}
		if n := r.Num(); n != 77 || r.End() != api.OK {
			t.Errorf("behind %v: %d, %v", o, n, r.End())
		}
	}
}

// P7.2: an op that may not be is a fault of the form, and a zero op.
func TestTakeWrongOps(t *testing.T) {
	for _, o := range wrongOps() {
		if o.Kind < 0 || o.Item < 0 {
			continue // put as another op
		}
		r := wire.From(written(func(w *wire.Writer) { Put(w, o) }))
		if got := Take(r); got != (Op{}) || r.Err() != api.ErrForm || r.End() != api.ErrForm || r.Left() != 0 {
			t.Errorf("Take of %v: %v, %v", o, got, r.Err())
		}
	}
}

// P7.2: faults of bytes.
func TestTakeFaults(t *testing.T) {
	for _, c := range []struct {
		b    string
		want api.Errno
	}{
		{"", api.ErrShort},
		{"\x01", api.ErrShort},
		{"\x01\x01", api.ErrShort},
		{"\x01\x01\x01\x05", api.ErrShort},
		{"\x01\x01\x01\x05\x02\x01", api.ErrShort},
		{"\x01\x04\x00", api.ErrShort},
		{"\x00\x00\x00", api.ErrForm},
		{"\x01\x05", api.ErrForm}, // too great a kind is a fault where it stands
		{"\x01\x01\x01\x3d", api.ErrForm},
		{"\x01\x00\x01\x05\x01\x06", api.ErrForm},
		{"\x02\x00\x01\x01\x05\x01\x06", api.ErrForm},
		{"\x01\x01\x09", api.ErrForm},
		{"\x01\x01\x01\x05\x01\x00", api.ErrForm},
		{"\x01\x01\x01\x05\x00", api.ErrForm},
		{"\x01\x01\x00\x01\x06", api.ErrForm},
		{"\x01\x02\x01\x05\x01\x01", api.ErrForm},
		{"\x01\x03\x01\x05\x01\x02", api.ErrForm},
		{"\x01\x04\x01\x05\x00", api.ErrForm},
		{"\x01\x04\x00\x01\x02", api.ErrForm},
		{"\x08\x00\x00\x00\x00\x00\x00\x00\x01\x01\x05\x01\x06", api.ErrForm},
		{"\x08\xff\xff\xff\xff\xff\xff\xff\xff\x01\x05\x01\x06", api.ErrForm},
		{"\x01\x01\x01\x05\x08\xff\xff\xff\xff\xff\xff\xff\xff", api.ErrForm},
	} {
		r := wire.From([]byte(c.b))
		if got := Take(r); got != (Op{}) || r.Err() != c.want || r.End() != c.want || r.Left() != 0 {
			t.Errorf("Take of %x: %v, %v, want %v", c.b, got, r.Err(), c.want)
		}
	}
}

// P7.2: behind a fault, and without a reader, there is no op.
func TestTakeNothing(t *testing.T) {
	r := wire.From([]byte("\x01\x04\x00\x00\x01\x04\x00\x00"))
	r.Must(false)
	if got := Take(r); got != (Op{}) || r.Err() != api.ErrForm {
		t.Errorf("behind a fault: %v, %v", got, r.Err())
	}
	short := wire.From(nil)
	short.Num()
	if got := Take(short); got != (Op{}) || short.Err() != api.ErrShort {
		t.Errorf("behind a fault: %v, %v", got, short.Err())
	}
	if got := Take(nil); got != (Op{}) {
		t.Errorf("of nil: %v", got)
	}
	if got := Take(&wire.Reader{}); got != (Op{}) {
		t.Errorf("of a reader that was not made: %v", got)
	}
}

// P2 of the whole: whatever is taken may be, and is put again as the same bytes; cut anywhere, it is nothing.
func TestTakeOneWay(t *testing.T) {
	for _, o := range rightOps() {
		b := written(func(w *wire.Writer) { Put(w, o) })
		for n := range b {
			r := wire.From(b[:n])
			if got := Take(r); got != (Op{}) || r.Err() != api.ErrShort {
				t.Errorf("%v, cut at %d: %v, %v", o, n, got, r.Err())
			}
		}
	}
	draw := draws(3)
	taken := 0
	for range 60000 {
		b := []byte{byte(draw(3)), byte(draw(6)), byte(draw(3)), byte(draw(70)), byte(draw(3)), byte(draw(10)), byte(draw(256)), 0}
		r := wire.From(b)
		o := Take(r)
		if r.Err() != api.OK {
			if o != (Op{}) {
				t.Fatalf("Take of %x: %v beside %v", b, o, r.Err())
			}
			continue
		}
		taken++
		if again := written(func(w *wire.Writer) { Put(w, o) }); !May(o) || !bytes.Equal(again, b[:len(b)-r.Left()]) {
			t.Fatalf("Take of %x: %v, put again %x", b, o, again)
		}
	}
	if taken < 1000 {
		t.Fatalf("just %d ops were taken", taken)
	}
}
