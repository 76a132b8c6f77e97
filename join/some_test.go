package join

import (
	"math"
	"slices"
	"testing"

	"maund/api"
	"maund/cart"
)

// full is a context that covers all dots.
var full = api.Vec{math.MaxUint64, math.MaxUint64, math.MaxUint64, math.MaxUint64, math.MaxUint64, math.MaxUint64, math.MaxUint64, math.MaxUint64}

// entry is a short way to write one.
func entry(item, node int, n uint64, qty int) cart.Entry {
	return cart.Entry{Item: item, Node: node, N: n, Qty: qty}
}

// of is a short way to write a cart.
func of(ctx api.Vec, l ...cart.Entry) cart.Cart { return cart.Cart{Ctx: ctx, L: l} }

// run is a cart of n entries of an item and a node, from the first N on, and a context of just that node.
func run(item, node int, first uint64, n int) cart.Cart {
	var c cart.Cart
	for i := range n {
		c.L = append(c.L, entry(item, node, first+uint64(i), 1))
	}
	c.Ctx[node-1] = first + uint64(n) - 1
	return c
}

// wrongCarts are such as may not be, for each reason that there is.
func wrongCarts() []cart.Cart {
	return []cart.Cart{
		run(9, 3, 1, 401),
		of(full, cart.Entry{}),
		of(full, entry(61, 1, 1, 1)),
		of(full, entry(1, 9, 1, 1)),
		of(full, entry(1, 1, 0, 1)),
		of(full, entry(1, 1, 1, -1001)),
		of(api.Vec{1}, entry(1, 1, 2, 1)),
		of(full, entry(1, 1, 1, 1), entry(2, 1, 1, 1)),
		of(full, entry(2, 1, 1, 1), entry(1, 1, 2, 1)),
	}
}

// draws are numbers by a short rule, each from 0 on and below what is asked for.
func draws(x uint32) func(n int) int {
	return func(n int) int { x = x*1664525 + 1013904223; return int(x>>8) % n }
}

// drawn is a cart of a few items and nodes that may be. What an entry has hangs on its dot alone, so that no two of them clash.
func drawn(draw func(n int) int) cart.Cart {
	var c cart.Cart
	for i := range 3 {
		c.Ctx[i] = uint64(draw(4))
		for n := range c.Ctx[i] {
			if draw(3) > 0 {
				c.L = append(c.L, entry(1+(i+int(n))%4, i+1, n+1, int(n)-i))
			}
		}
	}
	c.L = cart.Order(c.L)
	return c
}

// drawnAny is a cart of any few entries, most of which may not be.
func drawnAny(draw func(n int) int) cart.Cart {
	var c cart.Cart
	c.Ctx[0] = uint64(draw(3))
	for range draw(4) {
		c.L = append(c.L, entry(draw(2), draw(3)-1, uint64(draw(2)), draw(2)))
	}
	return c
}

// sameCart holds a cart that came against the one that should.
func sameCart(t *testing.T, name string, got, want cart.Cart) {
	t.Helper()
	if got.Ctx != want.Ctx || !slices.Equal(got.L, want.L) {
		t.Errorf("%s: %v, want %v", name, got, want)
	}
}

// joins holds the join of two carts, one way and the other, against the one that should come.
func joins(t *testing.T, name string, a, b, want cart.Cart) {
	t.Helper()
	got, e := Two(a, b)
	back, eBack := Two(b, a)
	sameCart(t, name, got, want)
	sameCart(t, name+", the other way", back, want)
	if e != api.OK || eBack != api.OK {
		t.Errorf("%s: %v, the other way %v", name, e, eBack)
	}
}

// refuses holds an error of carts, and nothing beside it, against what should come.
func refuses(t *testing.T, name string, want api.Errno, l ...cart.Cart) {
	t.Helper()
	if got, e := All(l...); e != want || got.Ctx != (api.Vec{}) || len(got.L) != 0 {
		t.Errorf("%s: All: %v, %v, want %v", name, got, e, want)
	}
	if len(l) != 2 {
		return
	}
	for _, pair := range [][2]cart.Cart{{l[0], l[1]}, {l[1], l[0]}} {
		if got, e := Two(pair[0], pair[1]); e != want || got.Ctx != (api.Vec{}) || len(got.L) != 0 {
			t.Errorf("%s: Two: %v, %v, want %v", name, got, e, want)
		}
		if Covers(pair[0], pair[1]) || Order(pair[0], pair[1]) != 2 {
			t.Errorf("%s: one covers the other: %d", name, Order(pair[0], pair[1]))
		}
	}
}
