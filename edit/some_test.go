package edit

import (
	"math"
	"slices"
	"testing"

	"maund/api"
	"maund/cart"
	"maund/vec"
	"maund/wire"
)

// full is a context that covers all dots.
var full = api.Vec{math.MaxUint64, math.MaxUint64, math.MaxUint64, math.MaxUint64, math.MaxUint64, math.MaxUint64, math.MaxUint64, math.MaxUint64}

// entry is a short way to write one.
func entry(item, node int, n uint64, qty int) cart.Entry {
	return cart.Entry{Item: item, Node: node, N: n, Qty: qty}
}

// dot is a short way to write one.
func dot(node int, n uint64) vec.Dot { return vec.Dot{Node: node, N: n} }

// Short ways to write ops.
func add(item, qty int) Op { return Op{Kind: 1, Item: item, Qty: qty} }
func set(item, qty int) Op { return Op{Kind: 2, Item: item, Qty: qty} }
func remove(item int) Op   { return Op{Kind: 3, Item: item} }
func clearAll() Op         { return Op{Kind: 4} }

// usual is a cart that may be, with items of one entry and of more, and with dots that are off.
func usual() cart.Cart {
	return cart.Cart{Ctx: api.Vec{5, 3, 0, 0, 0, 0, 0, 9}, L: []cart.Entry{
		entry(5, 1, 2, 2), entry(5, 2, 1, -3),
		entry(7, 1, 1, 10), entry(7, 1, 4, -4), entry(7, 8, 9, 1000),
		entry(60, 2, 3, 0),
	}}
}

// many is n entries of an item and a node, in order.
func many(item, node, n int) []cart.Entry {
	var l []cart.Entry
	for i := range n {
		l = append(l, entry(item, node, uint64(i)+1, 1))
	}
	return l
}

// wrongCarts are such as may not be, for each reason that there is.
func wrongCarts() []cart.Cart {
	return []cart.Cart{
		{Ctx: full, L: many(9, 3, 401)},
		{Ctx: full, L: []cart.Entry{{}}},
		{Ctx: full, L: []cart.Entry{entry(61, 1, 1, 1)}},
		{Ctx: full, L: []cart.Entry{entry(1, 9, 1, 1)}},
		{Ctx: full, L: []cart.Entry{entry(1, 1, 0, 1)}},
		{Ctx: full, L: []cart.Entry{entry(1, 1, 1, 1001)}},
		{Ctx: api.Vec{1}, L: []cart.Entry{entry(1, 1, 2, 1)}},
		{Ctx: full, L: []cart.Entry{entry(1, 1, 1, 1), entry(2, 1, 1, 1)}},
		{Ctx: full, L: []cart.Entry{entry(2, 1, 1, 1), entry(1, 1, 2, 1)}},
	}
}

// rightOps are such as may be, each kind up to each of its edges.
func rightOps() []Op {
	return []Op{
		add(1, 1), add(60, -1), add(5, 1000), add(5, -1000), add(5, 128), add(5, -129),
		set(1, 0), set(60, 1000), set(5, 3), set(5, 1),
		remove(1), remove(5), remove(60), clearAll(),
	}
}

// wrongOps are such as may not be.
func wrongOps() []Op {
	l := []Op{
		{}, {Kind: 5}, {Kind: -1}, {Kind: 5, Item: 1, Qty: 1}, {Kind: 0, Item: 1, Qty: 1}, {Kind: math.MaxInt, Item: 1, Qty: 1}, {Kind: math.MinInt},
		{Kind: 1<<32 + 1, Item: 1, Qty: 1}, {Kind: 256 + 4},
		add(1, 0), add(1, 1001), add(1, -1001), add(1, math.MaxInt), add(1, math.MinInt),
		set(1, -1), set(1, 1001), set(1, -1000), set(1, math.MaxInt), set(1, math.MinInt),
		{Kind: 3, Item: 1, Qty: 1}, {Kind: 3, Item: 1, Qty: -1}, {Kind: 3, Item: 60, Qty: math.MinInt},
		{Kind: 4, Item: 1}, {Kind: 4, Qty: 1}, {Kind: 4, Item: 1, Qty: 1}, {Kind: 4, Item: -1}, {Kind: 4, Qty: -1},
	}
	for _, item := range []int{0, -1, 61, 1<<32 + 1, math.MaxInt, math.MinInt} {
		l = append(l, add(item, 1), set(item, 1), remove(item))
	}
	return l
}

// wrongNodes are none of the nodes.
func wrongNodes() []int {
	return []int{0, -1, 9, 10, 1 << 32, 1<<32 + 1, math.MaxInt, math.MinInt}
}

// draws are numbers by a short rule, each from 0 on and below what is asked for.
func draws(x uint32) func(n int) int {
	return func(n int) int { x = x*1664525 + 1013904223; return int(x>>8) % n }
}

// drawnOp is an op of a few items that may be.
func drawnOp(draw func(n int) int) Op {
	item := 1 + draw(5)
	switch draw(12) {
	case 0, 1, 2:
		return set(item, draw(4))
	case 3, 4:
		return remove(item)
	case 5:
		return clearAll()
	}
	return add(item, []int{-2, -1, 1, 2, 3, 7}[draw(6)])
}

// drawnCart is a cart of a few items and nodes that may be.
func drawnCart(draw func(n int) int) cart.Cart {
	var c cart.Cart
	for i := range 4 {
		c.Ctx[i] = uint64(draw(6))
		for n := range c.Ctx[i] {
			if draw(3) > 0 {
				c.L = append(c.L, entry(1+draw(5), i+1, n+1, draw(7)-3))
			}
		}
	}
	c.L = cart.Order(c.L)
	return c
}

// written is what one writes.
func written(do func(w *wire.Writer)) []byte {
	var w wire.Writer
	do(&w)
	return w.Bytes()
}

// nothing tells whether an answer beside an error is zero values.
func nothing(c cart.Cart, x Event) bool {
	return c.Ctx == api.Vec{} && len(c.L) == 0 && x.Kind == 0 && x.Item == 0 && x.Qty == 0 && x.Dot == vec.Dot{} && len(x.Off) == 0
}

// sameCart holds a cart that came against the one that should.
func sameCart(t *testing.T, name string, got, want cart.Cart) {
	t.Helper()
	if got.Ctx != want.Ctx || !slices.Equal(got.L, want.L) {
		t.Errorf("%s: %v, want %v", name, got, want)
	}
}

// sameEvent holds an event that came against the one that should.
func sameEvent(t *testing.T, name string, got, want Event) {
	t.Helper()
	if got.Kind != want.Kind || got.Item != want.Item || got.Qty != want.Qty || got.Dot != want.Dot || !slices.Equal(got.Off, want.Off) {
		t.Errorf("%s: %v, want %v", name, got, want)
	}
}
