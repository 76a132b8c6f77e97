package pack

import (
	"bytes"
	"slices"
	"strings"
	"testing"

	"maund/api"
	"maund/cart"
	"maund/wire"
)

// P10.2: which lists may be.
func TestRight(t *testing.T) {
	for _, l := range rightLists() {
		if !Right(l) {
			t.Errorf("%.300v may not be", l)
		}
	}
	for _, l := range wrongLists() {
		if Right(l) {
			t.Errorf("%.300v may be", l)
		}
	}
	room := many(2001)
	if !Right(room[:2000]) || !Right(append(slices.Clone(some()), under("", wrongCarts()[0]))[:len(some())]) {
		t.Errorf("what stands behind a list counts")
	}
}

// P10.2: the bytes of lists.
func TestWriteAll(t *testing.T) {
	for _, c := range []struct {
		l    []Keyed
		want string
	}{
		{nil, "\x00"},
		{[]Keyed{}, "\x00"},
		{[]Keyed{under("", cart.Cart{})}, "\x01\x01" + "\x00" + nine},
		{[]Keyed{under("abc", usual())}, "\x01\x01" + "\x01\x03abc" + usualBytes},
		{[]Keyed{under("B", cart.Cart{}), under("a", usual()), under("ab\xff", cart.Cart{}), under(long(20), cart.Cart{})},
			"\x01\x04" + "\x01\x01B" + nine + "\x01\x01a" + usualBytes + "\x01\x03ab\xff" + nine + "\x01\x14" + long(20) + nine},
	} {
		if got, e := WriteAll(c.l); string(got) != c.want || e != api.OK {
			t.Errorf("WriteAll %.300v: %x, %v, want %x", c.l, got, e, c.want)
		}
	}
	for _, l := range wrongLists() {
		if b, e := WriteAll(l); e != api.ErrForm || len(b) != 0 {
			t.Errorf("WriteAll %.300v: %x, %v", l, b, e)
		}
	}
}

// P10.2, P10.3: what was written is read; cut anywhere, or with more behind it, it is nothing.
func TestReadAll(t *testing.T) {
	for _, l := range rightLists() {
		b, _ := WriteAll(l)
		got, e := ReadAll(b)
		sameList(t, "ReadAll", got, l)
		if e != api.OK {
			t.Errorf("ReadAll of %.300v: %v", l, e)
		}
		if got, e := ReadAll(append(slices.Clone(b), 0)); e != api.ErrForm || len(got) != 0 {
			t.Errorf("ReadAll of %.300v and one byte: %.300v, %v", l, got, e)
		}
		for n := 0; n < len(b); n += 1 + len(b)/500 {
			if got, e := ReadAll(b[:n]); e != api.ErrForm || len(got) != 0 {
				t.Fatalf("%.300v, cut at %d: %.300v, %v", l, n, got, e)
			}
		}
	}
}

// P10.2: bytes that are no list's.
func TestReadAllFaults(t *testing.T) {
	for name, b := range map[string]string{
		"nothing":                         "",
		"a count alone":                   "\x01\x01",
		"a count in another way":          "\x01\x00",
		"a count that is missing":         "\x02\x01",
		"a count of 2001":                 "\x02\x07\xd1" + strings.Repeat("\x00"+nine, 2001),
		"a great count":                   "\x08\xff\xff\xff\xff\xff\xff\xff\xff\x00" + nine,
		"a key without a cart":            "\x01\x01\x01\x01a",
		"a key of 21 bytes":               "\x01\x01\x01\x15" + long(21) + nine,
		"a key's length in another way":   "\x01\x01\x02\x00\x01a" + nine,
		"keys that fall":                  "\x01\x02\x01\x01b" + nine + "\x01\x01a" + nine,
		"a key twice":                     "\x01\x02\x01\x01a" + nine + "\x01\x01a" + nine,
		"no key twice":                    "\x01\x02\x00" + nine + "\x00" + nine,
		"a key behind one that begins so": "\x01\x02\x01\x02ab" + nine + "\x01\x01a" + nine,
		"one that is missing":             "\x01\x02\x01\x01a" + nine,
		"one more than told":              "\x01\x01\x01\x01a" + nine + "\x01\x01b" + nine,
		"a cart that may not be":          "\x01\x01\x01\x01a\x00\x00\x00\x00\x00\x00\x00\x00\x01\x01\x01\x01\x01\x01\x01\x01\x00",
		"a cart that may not be, behind":  "\x01\x02\x01\x01a" + nine + "\x01\x01b\x00\x00\x00\x00\x00\x00\x00\x00\x01\x01\x01\x01\x01\x01\x01\x01\x00",
		"a cart that may not be, ahead":   "\x01\x02\x01\x01a\x00\x00\x00\x00\x00\x00\x00\x00\x01\x01\x01\x01\x01\x01\x01\x01\x00\x01\x01b" + nine,
	} {
		if got, e := ReadAll([]byte(b)); e != api.ErrForm || len(got) != 0 {
			t.Errorf("ReadAll of %s: %.300v, %v", name, got, e)
		}
	}
	for _, l := range wrongLists() {
		var w wire.Writer
		w.Num(uint64(len(l)))
		for _, k := range l {
			w.Text([]byte(k.Key))
			put(&w, k.Cart)
		}
		if got, e := ReadAll(w.Bytes()); e != api.ErrForm || len(got) != 0 {
			t.Errorf("ReadAll of %.300v: %.300v, %v", l, got, e)
		}
	}
}

// P10.2: the first cart of a key, of lists in any order.
func TestFind(t *testing.T) {
	for _, k := range some() {
		for _, l := range [][]Keyed{some(), backward(some())} {
			got, there := Find(l, k.Key)
			sameCart(t, "Find of "+k.Key, got, k.Cart)
			if !there {
				t.Errorf("%q is not there", k.Key)
			}
		}
	}
	for _, key := range []string{"b", "aa", "a-", "\x00\x00\x00", long(18), long(21), "\xfe"} {
		if got, there := Find(some(), key); there || got.Ctx != (api.Vec{}) || len(got.L) != 0 {
			t.Errorf("Find of %q: %v, %v", key, got, there)
		}
	}
	if _, there := Find(nil, ""); there {
		t.Errorf("Find of nothing")
	}
	l := []Keyed{under("b", of(api.Vec{1})), under("a", of(api.Vec{2})), under("b", of(api.Vec{3})), under(long(99), wrongCarts()[0])}
	for key, want := range map[string]cart.Cart{"b": l[0].Cart, "a": l[1].Cart, long(99): l[3].Cart} {
		got, there := Find(l, key)
		sameCart(t, "Find of "+key, got, want)
		if !there {
			t.Errorf("%q is not there", key)
		}
	}
	if got, there := Find(l[:3], long(99)); there || len(got.L) != 0 {
		t.Errorf("what stands behind a list is found: %.300v", got)
	}
}

// P10.2: a key's cart in the place of each, or where the key stands.
func TestWith(t *testing.T) {
	a, b, c := of(api.Vec{1}), usual(), of(api.Vec{3})
	for name, x := range map[string]struct {
		l    []Keyed
		key  string
		want []Keyed
	}{
		"nothing":                        {nil, "a", []Keyed{under("a", c)}},
		"ahead of all":                   {[]Keyed{under("b", a), under("d", b)}, "a", []Keyed{under("a", c), under("b", a), under("d", b)}},
		"between":                        {[]Keyed{under("b", a), under("d", b)}, "c", []Keyed{under("b", a), under("c", c), under("d", b)}},
		"behind all":                     {[]Keyed{under("b", a), under("d", b)}, "e", []Keyed{under("b", a), under("d", b), under("e", c)}},
		"there, the first one":           {[]Keyed{under("b", a), under("d", b)}, "b", []Keyed{under("b", c), under("d", b)}},
		"there, the last one":            {[]Keyed{under("b", a), under("d", b)}, "d", []Keyed{under("b", a), under("d", c)}},
		"no bytes":                       {[]Keyed{under("b", a)}, "", []Keyed{under("", c), under("b", a)}},
		"a key that another begins with": {[]Keyed{under("ab", a), under("abcd", a)}, "abc", []Keyed{under("ab", a), under("abc", c), under("abcd", a)}},
		"by bytes":                       {[]Keyed{under("Z", a), under("\xff", a)}, "a", []Keyed{under("Z", a), under("a", c), under("\xff", a)}},
		"each of more":                   {[]Keyed{under("b", a), under("c", a), under("b", b)}, "b", []Keyed{under("b", c), under("c", a), under("b", c)}},
		"ahead of the first greater one": {[]Keyed{under("d", a), under("b", b), under("e", a)}, "c", []Keyed{under("c", c), under("d", a), under("b", b), under("e", a)}},
		"not ahead of one that is less":  {[]Keyed{under("a", a), under("b", b), under("a", b)}, "c", []Keyed{under("a", a), under("b", b), under("a", b), under("c", c)}},
		"a key that may not be":          {[]Keyed{under("b", a)}, long(30), []Keyed{under("b", a), under(long(30), c)}},
		"carts that may not be":          {[]Keyed{under("b", wrongCarts()[3])}, "a", []Keyed{under("a", c), under("b", wrongCarts()[3])}},
	} {
		sameList(t, name, With(x.l, x.key, c), x.want)
	}
	for _, wrong := range wrongCarts() {
		sameList(t, "a cart that may not be", With([]Keyed{under("a", a)}, "a", wrong), []Keyed{under("a", wrong)})
	}
	if got := With(many(2000), "\xff", c); len(got) != 2001 || Right(got) {
		t.Errorf("more than may be: %d", len(got))
	}
	room := []Keyed{under("a", a), under("b", b)}
	sameList(t, "what stands behind a list", With(room[:1], "c", c), []Keyed{under("a", a), under("c", c)})
	sameList(t, "what stood behind a list", room, []Keyed{under("a", a), under("b", b)})
}

// P10.4: With and Find go together; other keys' carts stay; a list that may be is one with a cart that may be, too.
func TestWithFind(t *testing.T) {
	draw := draws(8)
	for range 20000 {
		l, key, c := drawnList(draw), drawnKey(draw), drawn(draw)
		if draw(2) == 0 {
			l = nil
			for range draw(6) {
				l = With(l, drawnKey(draw), drawn(draw))
			}
			if !Right(l) {
				t.Fatalf("%v may not be", l)
			}
		}
		with := With(l, key, c)
		if got, there := Find(with, key); !there || !is(under("", got), under("", c)) {
			t.Fatalf("Find of %q in %v: %v, %v, want %v", key, with, got, there, c)
		}
		other := func(k Keyed) bool { return k.Key == key }
		if !slices.EqualFunc(slices.DeleteFunc(slices.Clone(with), other), slices.DeleteFunc(slices.Clone(l), other), is) {
			t.Fatalf("%v with %q is %v", l, key, with)
		}
		was, there := Find(l, key)
		if grown := len(with) - len(l); grown != 0 && there || grown != 1 && !there {
			t.Fatalf("%v with %q is %v", l, key, with)
		}
		if there && slices.IndexFunc(with, other) != slices.IndexFunc(l, other) {
			t.Fatalf("%v with %q in another place than %v: %v", l, key, was, with)
		}
		if Right(l) && !Right(with) {
			t.Fatalf("%v with %q may not be: %v", l, key, with)
		}
		sameList(t, "With again", With(with, key, c), with)
	}
}

// P10.3: equal lists have equal bytes, unlike ones unlike ones.
func TestAllOneWay(t *testing.T) {
	draw := draws(2)
	all := rightLists()[:5]
	for range 300 {
		var l []Keyed
		for range draw(4) {
			l = With(l, drawnKey(draw), drawn(draw))
		}
		all = append(all, l)
	}
	for i, a := range all {
		b, _ := WriteAll(a)
		got, e := ReadAll(b)
		sameList(t, "ReadAll", got, a)
		if e != api.OK {
			t.Fatalf("ReadAll of %.300v: %v", a, e)
		}
		for _, other := range all[i:] {
			if c, _ := WriteAll(other); bytes.Equal(b, c) != slices.EqualFunc(a, other, is) {
				t.Fatalf("%.300v and %.300v: %x, %x", a, other, b, c)
			}
		}
	}
}

// The whole's rules 4 and 5: lists are neither changed nor kept, and what is handed out is new memory, each list in it, too.
func TestListMemory(t *testing.T) {
	make1 := func() []Keyed { return []Keyed{under("b", usual()), under("a", usual()), under("b", usual())} }
	for name, call := range map[string]func(l []Keyed, c cart.Cart) []Keyed{
		"With, there":     func(l []Keyed, c cart.Cart) []Keyed { return With(l, "b", c) },
		"With, not there": func(l []Keyed, c cart.Cart) []Keyed { return With(l, "c", c) },
		"With, ahead":     func(l []Keyed, c cart.Cart) []Keyed { return With(l, "", c) },
		"With, its own":   func(l []Keyed, c cart.Cart) []Keyed { return With(l, "b", l[1].Cart) },
		"Find": func(l []Keyed, c cart.Cart) []Keyed {
			got, _ := Find(l, "b")
			return []Keyed{under("", got)}
		},
		"ReadAll": func(l []Keyed, c cart.Cart) []Keyed {
			b, _ := WriteAll(l[1:])
			got, _ := ReadAll(b)
			return got
		},
	} {
		l, c := make1(), usual()
		room := append(c.L, entry(61, 9, 9, 9))
		c.L = room[:len(c.L)]
		got := call(l, c)
		var want []Keyed
		for _, k := range got {
			want = append(want, under(k.Key, of(k.Cart.Ctx, slices.Clone(k.Cart.L)...)))
		}
		for i := range got {
			clear(got[i].Cart.L[:cap(got[i].Cart.L)])
			for j := range got {
				if j > i && len(want[j].Cart.L) > 0 && got[j].Cart.L[0] == (cart.Entry{}) {
					t.Errorf("%s: lists of one answer share memory", name)
				}
			}
			got[i] = Keyed{}
		}
		sameList(t, name+": what was handed in", l, make1())
		sameCart(t, name+": what was handed in", c, usual())
		if room[len(c.L)] != entry(61, 9, 9, 9) {
			t.Errorf("%s: what stands behind a list was changed", name)
		}
		again := call(l, c)
		for i := range l {
			clear(l[i].Cart.L)
			l[i] = Keyed{}
		}
		clear(c.L)
		sameList(t, name+": what was handed out", again, want)
	}
}
