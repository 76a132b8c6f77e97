package model

import (
	"slices"
	"testing"

	"maund/api"
	"maund/cart"
	"maund/edit"
	"maund/join"
)

// replica is a node's cart, and the events that it knows.
type replica struct {
	node  int
	cart  cart.Cart
	knows []edit.Event
}

// newReplica is a node's, that knows of nothing.
func newReplica(node int) *replica { return &replica{node: node} }

// do does any op there; it tells whether it was done.
func (r *replica) do(draw func(n int) int) bool {
	o := edit.Op{Kind: 1, Item: 1 + draw(4), Qty: []int{-3, -1, 1, 2, 1000}[draw(5)]}
	switch draw(12) {
	case 0, 1, 2:
		o = edit.Op{Kind: 2, Item: o.Item, Qty: draw(4)}
	case 3, 4:
		o = edit.Op{Kind: 3, Item: o.Item}
	case 5:
		o = edit.Op{Kind: 4}
	}
	next, x, e := edit.Do(r.cart, r.node, o)
	if e != api.OK {
		return false
	}
	r.cart, r.knows = next, append(r.knows, x)
	return true
}

// hear joins another replica there.
func (r *replica) hear(t *testing.T, other *replica) {
	t.Helper()
	joined, e := join.Two(r.cart, other.cart)
	if e != api.OK {
		t.Fatalf("a join at %d: %v", r.node, e)
	}
	was := r.knows
	r.cart, r.knows = joined, Union(r.knows, other.knows)
	if !Subset(was, r.knows) || !Subset(other.knows, r.knows) || !slices.EqualFunc(was, r.knows[:len(was)], is) {
		t.Fatalf("what is known at %d: %v", r.node, r.knows)
	}
}

// holds holds the replica's cart against that of the events that it knows, in any order, each any often.
func (r *replica) holds(t *testing.T, draw func(n int) int) {
	t.Helper()
	known := r.knows
	if len(known) > 0 && draw(2) == 0 {
		known = mixed(draw, append(slices.Clone(known), known[draw(len(known)):]...))
	}
	got, e := Cart(known)
	if e != api.OK || !cart.Same(got, r.cart) {
		t.Fatalf("at %d: %v, %v, its events' cart is %v", r.node, r.cart, e, got)
	}
}

// P9.3, P9.4, P3 of the whole: whatever is done and joined, each replica's cart is that of the events that it knows.
func TestRefined(t *testing.T) {
	draw := draws(1)
	off := 0
	for range 60 {
		var all []*replica
		for node := 1; node <= api.MaxNodes; node++ {
			all = append(all, newReplica(node))
		}
		some := 2 + draw(len(all)-1)
		for range 80 {
			at := all[draw(some)]
			if draw(3) == 0 {
				at.hear(t, all[draw(some)])
			} else {
				at.do(draw)
			}
			at.holds(t, draw)
		}
		for _, other := range all[1:] {
			all[0].hear(t, other)
			all[0].holds(t, draw)
		}
		off += len(Dots(all[0].knows)) - len(all[0].cart.L)
		if rest, e := Cart(all[0].knows); e != api.OK || !cart.SameValue(cart.Value(rest), cart.Value(all[0].cart)) {
			t.Fatalf("what is read: %v, %v", rest, e)
		}
	}
	if off < 500 {
		t.Errorf("just %d dots went off", off)
	}
}

// P9.3: also where a replica was cut off for long, with carts as full as they may be.
func TestRefinedFull(t *testing.T) {
	draw := draws(6)
	a, b := newReplica(1), newReplica(8)
	for a.do(func(n int) int { return 6 % n }) {
		a.holds(t, draw)
	}
	if len(a.cart.L) != api.MaxEntries {
		t.Fatalf("%d entries", len(a.cart.L))
	}
	for range 300 {
		b.do(draw)
	}
	b.hear(t, a)
	b.holds(t, draw)
	a.hear(t, b)
	a.holds(t, draw)
	if !cart.Same(a.cart, b.cart) || !Subset(a.knows, b.knows) || !Subset(b.knows, a.knows) {
		t.Errorf("%v and %v", a.cart, b.cart)
	}
}
