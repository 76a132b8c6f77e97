package pack

import (
	"bytes"
	"strings"
	"testing"

	"maund/api"
	"maund/cart"
	"maund/wire"
)

// nine is the bytes of a cart of nothing.
const nine = "\x00\x00\x00\x00\x00\x00\x00\x00\x00"

// usualBytes is the bytes of the usual cart.
const usualBytes = "\x01\x05\x01\x03\x00\x00\x00\x00\x00\x02\x01\x2c" + "\x01\x06" +
	"\x01\x05\x01\x01\x01\x02\x01\x04" + "\x01\x05\x01\x02\x01\x01\x01\x05" +
	"\x01\x07\x01\x01\x01\x01\x01\x14" + "\x01\x07\x01\x01\x01\x04\x01\x07" + "\x01\x07\x01\x08\x02\x01\x2c\x02\x07\xd0" +
	"\x01\x3c\x01\x02\x01\x03\x00"

// written is what Put writes.
func written(c cart.Cart) []byte {
	var w wire.Writer
	Put(&w, c)
	return w.Bytes()
}

// P10.1: the bytes of carts, the document's example among them; behind others, and of carts that may not be nothing.
func TestPut(t *testing.T) {
	for _, c := range []struct {
		c    cart.Cart
		want string
	}{
		{cart.Cart{}, nine},
		{cart.Cart{L: []cart.Entry{}}, nine},
		{of(api.Vec{1, 0, 300}), "\x01\x01\x00\x02\x01\x2c\x00\x00\x00\x00\x00\x00"},
		{of(full), strings.Repeat("\x08\xff\xff\xff\xff\xff\xff\xff\xff", 8) + "\x00"},
		{of(api.Vec{1}, entry(3, 1, 1, -1000)), "\x01\x01\x00\x00\x00\x00\x00\x00\x00" + "\x01\x01" + "\x01\x03\x01\x01\x01\x01\x02\x07\xcf"},
		{usual(), usualBytes},
	} {
		if got := written(c.c); string(got) != c.want {
			t.Errorf("Put %v: %x, want %x", c.c, got, c.want)
		}
	}
	var w wire.Writer
	w.Num(7)
	for _, c := range wrongCarts() {
		Put(&w, c)
	}
	Put(&w, usual())
	Put(&w, cart.Cart{})
	if got := string(w.Bytes()); got != "\x01\x07"+usualBytes+nine {
		t.Errorf("Put behind others: %x", got)
	}
	Put(nil, usual())
	Put(nil, wrongCarts()[0])
}

// P10.1: Write is Put's bytes, Read that cart; ErrForm, and nothing, of what may not be.
func TestWriteRead(t *testing.T) {
	for _, c := range rightCarts() {
		b, e := Write(c)
		if e != api.OK || !bytes.Equal(b, written(c)) {
			t.Errorf("Write %.300v: %x, %v", c, b, e)
		}
		got, e := Read(b)
		sameCart(t, "Read", got, c)
		if e != api.OK {
			t.Errorf("Read of %.300v: %v", c, e)
		}
	}
	for _, c := range wrongCarts() {
		if b, e := Write(c); e != api.ErrForm || len(b) != 0 {
			t.Errorf("Write %.300v: %x, %v", c, b, e)
		}
	}
}

// P10.1: bytes that are no cart's.
func TestReadFaults(t *testing.T) {
	one := "\x01\x01\x00\x00\x00\x00\x00\x00\x00"                     // a context of one event
	two := "\x01\x02\x01\x01\x00\x00\x00\x00\x00\x00"                 // of two, and one
	vast := strings.Repeat("\x08\xff\xff\xff\xff\xff\xff\xff\xff", 8) // of all
	for name, c := range map[string]struct {
		b    string
		want api.Errno
	}{
		"nothing":                            {"", api.ErrShort},
		"a context cut":                      {one[:8], api.ErrShort},
		"no count":                           {one, api.ErrShort},
		"an entry that is missing":           {one + "\x01\x01", api.ErrShort},
		"an entry without Node":              {one + "\x01\x01\x01\x05", api.ErrShort},
		"an entry without N":                 {one + "\x01\x01\x01\x05\x01\x01", api.ErrShort},
		"an entry without Qty":               {one + "\x01\x01\x01\x05\x01\x01\x01\x01", api.ErrShort},
		"one of two entries":                 {two + "\x01\x02\x01\x05\x01\x01\x01\x01\x00", api.ErrShort},
		"a context in another way":           {"\x02\x00\x01\x00\x00\x00\x00\x00\x00\x00\x00", api.ErrForm},
		"a context's number too long":        {"\x09\x01\x01\x01\x01\x01\x01\x01\x01\x01\x00\x00\x00\x00\x00\x00\x00\x00", api.ErrForm},
		"a count in another way":             {one + "\x01\x00", api.ErrForm},
		"401 entries":                        {vast + "\x02\x01\x91", api.ErrForm},
		"a great count":                      {vast + "\x08\xff\xff\xff\xff\xff\xff\xff\xff", api.ErrForm},
		"the item 0":                         {one + "\x01\x01\x00\x01\x01\x01\x01\x00", api.ErrForm},
		"the item 61":                        {one + "\x01\x01\x01\x3d\x01\x01\x01\x01\x00", api.ErrForm},
		"a great item":                       {one + "\x01\x01\x08\x80\x00\x00\x00\x00\x00\x00\x05\x01\x01\x01\x01\x00", api.ErrForm},
		"the node 0":                         {one + "\x01\x01\x01\x05\x00\x01\x01\x00", api.ErrForm},
		"the node 9":                         {vast + "\x01\x01\x01\x05\x01\x09\x01\x01\x00", api.ErrForm},
		"the event 0":                        {one + "\x01\x01\x01\x05\x01\x01\x00\x00", api.ErrForm},
		"an event that is not covered":       {one + "\x01\x01\x01\x05\x01\x01\x01\x02\x00", api.ErrForm},
		"a node of which nothing is covered": {one + "\x01\x01\x01\x05\x01\x02\x01\x01\x00", api.ErrForm},
		"1001":                               {one + "\x01\x01\x01\x05\x01\x01\x01\x01\x02\x07\xd2", api.ErrForm},
		"-1001":                              {one + "\x01\x01\x01\x05\x01\x01\x01\x01\x02\x07\xd1", api.ErrForm},
		"a Qty in another way":               {one + "\x01\x01\x01\x05\x01\x01\x01\x01\x02\x00\x02", api.ErrForm},
		"an entry twice":                     {one + "\x01\x02\x01\x05\x01\x01\x01\x01\x00\x01\x05\x01\x01\x01\x01\x00", api.ErrForm},
		"a dot twice":                        {one + "\x01\x02\x01\x05\x01\x01\x01\x01\x00\x01\x06\x01\x01\x01\x01\x00", api.ErrForm},
		"items that fall":                    {two + "\x01\x02\x01\x06\x01\x01\x01\x01\x00\x01\x05\x01\x01\x01\x02\x00", api.ErrForm},
		"nodes that fall":                    {two + "\x01\x02\x01\x05\x01\x02\x01\x01\x00\x01\x05\x01\x01\x01\x01\x00", api.ErrForm},
		"events that fall":                   {two + "\x01\x02\x01\x05\x01\x01\x01\x02\x00\x01\x05\x01\x01\x01\x01\x00", api.ErrForm},
	} {
		r := wire.From([]byte(c.b))
		got := Take(r)
		if r.Err() != c.want || r.End() != c.want || r.Left() != 0 {
			t.Errorf("Take of %s: %v, want %v", name, r.Err(), c.want)
		}
		sameCart(t, "Take of "+name, got, cart.Cart{})
		got, e := Read([]byte(c.b))
		if e != api.ErrForm {
			t.Errorf("Read of %s: %v", name, e)
		}
		sameCart(t, "Read of "+name, got, cart.Cart{})
	}
}

// P10.1: carts that may not be, in the form of such as may be: a Node and an Item are told as numbers, so those below 0 have none.
func TestReadWrongCarts(t *testing.T) {
	for _, c := range wrongCarts() {
		var w wire.Writer
		put(&w, c)
		got, e := Read(w.Bytes())
		if e != api.ErrForm {
			t.Errorf("Read of %.300v: %v", c, e)
		}
		sameCart(t, "Read", got, cart.Cart{})
	}
}

// P10.1: what is behind a cart stays; Read has nothing behind it.
func TestTakeBehind(t *testing.T) {
	for _, c := range rightCarts() {
		b := append(written(c), written(usual())...)
		r := wire.From(append(b, 1, 77))
		sameCart(t, "the first one", Take(r), c)
		sameCart(t, "the second one", Take(r), usual())
		if n := r.Num(); n != 77 || r.End() != api.OK {
			t.Errorf("behind %.300v: %d, %v", c, n, r.End())
		}
		got, e := Read(append(written(c), 0))
		if e != api.ErrForm {
			t.Errorf("Read of %.300v and one byte: %v", c, e)
		}
		sameCart(t, "Read of one byte more", got, cart.Cart{})
	}
}

// P10.1: behind a fault, and without a reader, there is no cart.
func TestTakeNothing(t *testing.T) {
	r := wire.From(append(written(usual()), written(usual())...))
	r.Must(false)
	sameCart(t, "behind a fault", Take(r), cart.Cart{})
	if r.Err() != api.ErrForm {
		t.Errorf("behind a fault: %v", r.Err())
	}
	short := wire.From(nil)
	short.Num()
	sameCart(t, "behind a fault", Take(short), cart.Cart{})
	if short.Err() != api.ErrShort {
		t.Errorf("behind a fault: %v", short.Err())
	}
	sameCart(t, "of nil", Take(nil), cart.Cart{})
	sameCart(t, "of a reader that was not made", Take(&wire.Reader{}), cart.Cart{})
}

// P10.3, P2 of the whole: cut anywhere, a cart is nothing.
func TestCut(t *testing.T) {
	for _, c := range rightCarts() {
		b := written(c)
		for n := range b {
			if got, e := Read(b[:n]); e != api.ErrForm || len(got.L) != 0 || got.Ctx != (api.Vec{}) {
				t.Fatalf("%.300v, cut at %d: %v, %v", c, n, got, e)
			}
			r := wire.From(b[:n])
			if Take(r); r.Err() != api.ErrShort {
				t.Fatalf("%.300v, cut at %d: %v", c, n, r.Err())
			}
		}
	}
}

// P10.3: equal carts have equal bytes, unlike ones unlike ones.
func TestOneWay(t *testing.T) {
	draw := draws(5)
	all := rightCarts()
	for range 400 {
		all = append(all, drawn(draw))
	}
	for i, a := range all {
		b, _ := Write(a)
		for _, other := range all[i:] {
			if c, _ := Write(other); bytes.Equal(b, c) != cart.Same(a, other) {
				t.Fatalf("%.300v and %.300v: %x, %x", a, other, b, c)
			}
		}
	}
}

// P10.3, P2 of the whole: whatever is read may be, and is written again as the same bytes.
func TestReadAgain(t *testing.T) {
	draw := draws(3)
	read := 0
	for range 30000 {
		b := written(drawn(draw))
		for range 1 + draw(2) {
			at := draw(len(b))
			switch draw(3) {
			case 0:
				b[at] = byte(draw(5))
			case 1:
				b[at]++
			default:
				b = append(b[:at], b[at+1:]...)
			}
			if len(b) == 0 {
				break
			}
		}
		c, e := Read(b)
		if e != api.OK {
			if e != api.ErrForm || c.Ctx != (api.Vec{}) || len(c.L) != 0 {
				t.Fatalf("Read of %x: %v, %v", b, c, e)
			}
			continue
		}
		read++
		if again, e := Write(c); e != api.OK || !bytes.Equal(again, b) || !cart.Right(c) {
			t.Fatalf("Read of %x: %v, written again %x, %v", b, c, again, e)
		}
	}
	if read < 1000 {
		t.Errorf("just %d carts were read", read)
	}
}

// The whole's rules 4 and 5: carts and bytes are neither changed nor kept, and what is handed out is new memory.
func TestMemory(t *testing.T) {
	c := usual()
	room := append(c.L, entry(61, 9, 9, 9))
	c.L = room[:len(c.L)]
	b, _ := Write(c)
	want := bytes.Clone(b)
	if string(want) != usualBytes || room[len(c.L)] != entry(61, 9, 9, 9) {
		t.Fatalf("what stands behind a list counts: %x", want)
	}
	got, _ := Read(b)
	r := wire.From(b)
	taken := Take(r)
	clear(b)
	clear(c.L)
	sameCart(t, "Read", got, usual())
	sameCart(t, "Take", taken, usual())
	clear(got.L)
	sameCart(t, "Take, beside Read", taken, usual())
	b, _ = Write(usual())
	if !bytes.Equal(b, want) {
		t.Errorf("Write, again: %x", b)
	}
}

// P10.3: carts, and lists, of any bytes.
func FuzzRead(f *testing.F) {
	f.Add([]byte(usualBytes))
	f.Add([]byte("\x01\x01\x01\x01a" + nine))
	f.Fuzz(func(t *testing.T, b []byte) {
		if c, e := Read(b); e == api.OK {
			if again, e := Write(c); e != api.OK || !bytes.Equal(again, b) {
				t.Errorf("Read of %x: %v, written again %x, %v", b, c, again, e)
			}
		}
		if l, e := ReadAll(b); e == api.OK {
			if again, e := WriteAll(l); e != api.OK || !bytes.Equal(again, b) {
				t.Errorf("ReadAll of %x: %v, written again %x, %v", b, l, again, e)
			}
		}
	})
}
