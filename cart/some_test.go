package cart

import (
	"math"
	"slices"
	"testing"

	"maund/api"
	"maund/vec"
)

// full is a context that covers all dots.
var full = api.Vec{math.MaxUint64, math.MaxUint64, math.MaxUint64, math.MaxUint64, math.MaxUint64, math.MaxUint64, math.MaxUint64, math.MaxUint64}

// entry is a short way to write one.
func entry(item, node int, n uint64, qty int) Entry {
	return Entry{Item: item, Node: node, N: n, Qty: qty}
}

// many is n entries of an item, in order.
func many(item, n int) []Entry {
	var l []Entry
	for i := range n {
		l = append(l, entry(item, 3, uint64(i)+1, i%5))
	}
	return l
}

// backward is a copy, the last one first.
func backward(l []Entry) []Entry {
	c := slices.Clone(l)
	slices.Reverse(c)
	return c
}

// draws are numbers by a short rule, each from 0 on and below what is asked for.
func draws(x uint32) func(n int) int {
	return func(n int) int { x = x*1664525 + 1013904223; return int(x>>8) % n }
}

// usual is a cart that may be, with items of one entry and of more, and with dots that are off.
func usual() Cart {
	return Cart{Ctx: api.Vec{5, 3, 0, 0, 0, 0, 0, 9}, L: []Entry{
		entry(5, 1, 2, 2), entry(5, 2, 1, -3),
		entry(7, 1, 1, 10), entry(7, 1, 4, -4), entry(7, 8, 9, 1000),
		entry(60, 2, 3, 0),
	}}
}

// rough is a cart that may not be, for each reason that there is: nothing of it is in order.
func rough() Cart {
	return Cart{Ctx: api.Vec{5, 3}, L: []Entry{
		entry(7, 2, 3, 4), entry(5, 1, 9, 1), entry(7, 1, 1, -1), entry(61, 1, 1, 2),
		entry(5, 0, 0, 8), entry(0, 9, 9, 5), entry(-4, -1, 6, math.MinInt), entry(5, 1, 2, 5000), entry(7, 2, 3, 4),
	}}
}

// drawn is a cart of a few items and nodes that may be.
func drawn(draw func(n int) int) Cart {
	var c Cart
	for i := range 3 {
		c.Ctx[i] = uint64(draw(4))
	}
	for i := range 3 {
		for n := range c.Ctx[i] {
			if draw(3) > 0 {
				c.L = append(c.L, entry(1+draw(4), i+1, n+1, draw(7)-3))
			}
		}
	}
	c.L = Order(c.L)
	return c
}

// sameEntries holds entries that came against those that should.
func sameEntries(t *testing.T, name string, got, want []Entry) {
	t.Helper()
	if !slices.Equal(got, want) {
		t.Errorf("%s: %v, want %v", name, got, want)
	}
}

// sameDots holds dots that came against those that should.
func sameDots(t *testing.T, name string, got, want []vec.Dot) {
	t.Helper()
	if !slices.Equal(got, want) {
		t.Errorf("%s: %v, want %v", name, got, want)
	}
}

// sameLines holds lines that came against those that should.
func sameLines(t *testing.T, name string, got, want []Line) {
	t.Helper()
	if !slices.Equal(got, want) {
		t.Errorf("%s: %v, want %v", name, got, want)
	}
}
