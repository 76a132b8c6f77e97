package pack

import (
	"math"
	"slices"
	"strings"
	"testing"

	"maund/api"
	"maund/cart"
)

// full is a context that covers all dots.
var full = api.Vec{math.MaxUint64, math.MaxUint64, math.MaxUint64, math.MaxUint64, math.MaxUint64, math.MaxUint64, math.MaxUint64, math.MaxUint64}

// entry is a short way to write one.
func entry(item, node int, n uint64, qty int) cart.Entry {
	return cart.Entry{Item: item, Node: node, N: n, Qty: qty}
}

// of is a short way to write a cart.
func of(ctx api.Vec, l ...cart.Entry) cart.Cart { return cart.Cart{Ctx: ctx, L: l} }

// run is a cart of n entries of an item and a node.
func run(item, node, n int) cart.Cart {
	c := cart.Cart{Ctx: full}
	for i := range n {
		c.L = append(c.L, entry(item, node, uint64(i)+1, i%1001))
	}
	return c
}

// usual is a cart that may be, with items of one entry and of more, and with dots that are off.
func usual() cart.Cart {
	return of(api.Vec{5, 3, 0, 0, 0, 0, 0, 300},
		entry(5, 1, 2, 2), entry(5, 2, 1, -3),
		entry(7, 1, 1, 10), entry(7, 1, 4, -4), entry(7, 8, 300, 1000),
		entry(60, 2, 3, 0))
}

// rightCarts are such as may be, up to each edge.
func rightCarts() []cart.Cart {
	return []cart.Cart{
		{}, of(full), of(api.Vec{1}), of(api.Vec{0, 0, 0, 0, 0, 0, 0, 1}), of(api.Vec{256, 255, 65535, 65536, 1 << 32, 1<<63 - 1, 1 << 63, 1}),
		of(api.Vec{1}, entry(1, 1, 1, 0)), of(full, entry(60, 8, math.MaxUint64, -1000)), of(full, entry(60, 8, math.MaxUint64, 1000)),
		usual(), run(9, 3, 40), run(9, 3, 400),
	}
}

// wrongCarts are such as may not be, for each reason that there is.
func wrongCarts() []cart.Cart {
	return []cart.Cart{
		run(9, 3, 401), run(9, 3, 5000),
		of(full, cart.Entry{}),
		of(full, entry(0, 1, 1, 1)), of(full, entry(61, 1, 1, 1)), of(full, entry(-1, 1, 1, 1)), of(full, entry(math.MinInt, 1, 1, 1)),
		of(full, entry(1, 0, 1, 1)), of(full, entry(1, 9, 1, 1)), of(full, entry(1, -1, 1, 1)), of(full, entry(1, math.MaxInt, 1, 1)),
		of(full, entry(1, 1, 0, 1)),
		of(full, entry(1, 1, 1, 1001)), of(full, entry(1, 1, 1, -1001)), of(full, entry(1, 1, 1, math.MinInt)),
		of(api.Vec{1}, entry(1, 1, 2, 1)), of(api.Vec{9}, entry(1, 2, 1, 1)), of(api.Vec{}, entry(1, 1, 1, 1)),
		of(full, entry(1, 1, 1, 1), entry(2, 1, 1, 1)), of(full, entry(1, 1, 1, 1), entry(1, 1, 1, 2)), of(full, entry(1, 1, 1, 1), entry(1, 1, 1, 1)),
		of(full, entry(2, 1, 1, 1), entry(1, 1, 2, 1)), of(full, entry(1, 1, 2, 1), entry(1, 1, 1, 1)), of(full, entry(1, 2, 1, 1), entry(1, 1, 1, 1)),
	}
}

// under is a short way to write a cart and its key.
func under(key string, c cart.Cart) Keyed { return Keyed{Key: key, Cart: c} }

// long is a key of that many bytes.
func long(n int) string { return strings.Repeat("k", n) }

// some is a list that may be: keys of each length and of any bytes, rising.
func some() []Keyed {
	return []Keyed{
		under("", usual()), under("\x00", cart.Cart{}), under("\x00\x00", of(full)), under("A", usual()), under("a", run(9, 3, 40)), under("a-1", of(api.Vec{1})), under("ab", usual()),
		under(long(19), cart.Cart{}), under(long(20), of(api.Vec{1}, entry(1, 1, 1, 0))), under("\xff", cart.Cart{}), under("\xff\xff", run(60, 8, 400)),
	}
}

// many is a list of that many carts of nothing.
func many(n int) []Keyed {
	var l []Keyed
	for i := range n {
		l = append(l, under(string([]byte{byte(i >> 8), byte(i)}), cart.Cart{}))
	}
	return l
}

// rightLists are such as may be.
func rightLists() [][]Keyed {
	return [][]Keyed{nil, {}, {under("", cart.Cart{})}, {under("abc", usual())}, some(), many(1999), many(2000)}
}

// wrongLists are such as may not be, for each reason that there is.
func wrongLists() [][]Keyed {
	l := [][]Keyed{
		{under(long(21), cart.Cart{})}, {under(long(300), usual())}, {under("a", usual()), under(long(21), cart.Cart{})},
		{under("a", usual()), under("a", usual())}, {under("", usual()), under("", cart.Cart{})}, {under("b", cart.Cart{}), under("a", cart.Cart{})},
		{under("ab", cart.Cart{}), under("a", cart.Cart{})}, {under("a", cart.Cart{}), under("B", cart.Cart{})}, {under("\xff", cart.Cart{}), under("z", cart.Cart{})},
		{under("a", cart.Cart{}), under("c", cart.Cart{}), under("b", cart.Cart{})}, {under("a", cart.Cart{}), under("b", cart.Cart{}), under("b", cart.Cart{})},
		many(2001), append(many(2000), under("\xff", usual())), backward(some()),
	}
	for _, c := range wrongCarts() {
		l = append(l, []Keyed{under("a", c)}, []Keyed{under("a", usual()), under("b", c), under("c", usual())}, []Keyed{under("a", usual()), under("b", c)})
	}
	return l
}

// backward is a copy, the last one first.
func backward(l []Keyed) []Keyed {
	c := slices.Clone(l)
	slices.Reverse(c)
	return c
}

// draws are numbers by a short rule, each from 0 on and below what is asked for.
func draws(x uint32) func(n int) int {
	return func(n int) int { x = x*1664525 + 1013904223; return int(x>>8) % n }
}

// drawn is a cart of a few items and nodes that may be.
func drawn(draw func(n int) int) cart.Cart {
	var c cart.Cart
	for i := range 3 {
		c.Ctx[i] = uint64(draw(4))
		for n := range c.Ctx[i] {
			if draw(3) > 0 {
				c.L = append(c.L, entry(1+draw(3), i+1, n+1, draw(5)-2))
			}
		}
	}
	c.L = cart.Order(c.L)
	return c
}

// drawnList is a list of a few keys, in any order, each any often.
func drawnList(draw func(n int) int) []Keyed {
	var l []Keyed
	for range draw(6) {
		l = append(l, under(drawnKey(draw), drawn(draw)))
	}
	return l
}

// drawnKey is one of a few keys.
func drawnKey(draw func(n int) int) string {
	return []string{"", "a", "aa", "ab", "b", "\xff"}[draw(6)]
}

// is tells whether two carts and their keys are equal.
func is(a, b Keyed) bool {
	return a.Key == b.Key && a.Cart.Ctx == b.Cart.Ctx && slices.Equal(a.Cart.L, b.Cart.L)
}

// sameCart holds a cart that came against the one that should.
func sameCart(t *testing.T, name string, got, want cart.Cart) {
	t.Helper()
	if !is(under("", got), under("", want)) {
		t.Errorf("%s: %.300v, want %.300v", name, got, want)
	}
}

// sameList holds a list that came against the one that should.
func sameList(t *testing.T, name string, got, want []Keyed) {
	t.Helper()
	if !slices.EqualFunc(got, want, is) {
		t.Errorf("%s: %d carts, %.300v, want %d, %.300v", name, len(got), got, len(want), want)
	}
}
