package model

import (
	"math"
	"slices"
	"testing"

	"maund/api"
	"maund/cart"
	"maund/edit"
	"maund/vec"
)

// dot is a short way to write one.
func dot(node int, n uint64) vec.Dot { return vec.Dot{Node: node, N: n} }

// entry is a short way to write one.
func entry(item, node int, n uint64, qty int) cart.Entry {
	return cart.Entry{Item: item, Node: node, N: n, Qty: qty}
}

// Short ways to write events.
func add(item, qty int, d vec.Dot) edit.Event {
	return edit.Event{Kind: 1, Item: item, Qty: qty, Dot: d}
}
func set(item, qty int, d vec.Dot, off ...vec.Dot) edit.Event {
	return edit.Event{Kind: 2, Item: item, Qty: qty, Dot: d, Off: off}
}
func remove(off ...vec.Dot) edit.Event   { return edit.Event{Kind: 3, Off: off} }
func clearAll(off ...vec.Dot) edit.Event { return edit.Event{Kind: 4, Off: off} }

// of is a short way to write a list.
func of(l ...edit.Event) []edit.Event { return l }

// run is n adds of an item and a node, from its first event on.
func run(item, node, n int) []edit.Event {
	var l []edit.Event
	for i := range n {
		l = append(l, add(item, 1, dot(node, uint64(i)+1)))
	}
	return l
}

// dotsOf is n dots of a node, from its first event on.
func dotsOf(node, n int) []vec.Dot {
	var l []vec.Dot
	for i := range n {
		l = append(l, dot(node, uint64(i)+1))
	}
	return l
}

// rightEvents are such as may be, each kind up to each of its edges.
func rightEvents() []edit.Event {
	return of(
		add(1, 1, dot(1, 1)), add(60, -1, dot(8, math.MaxUint64)), add(5, 1000, dot(3, 7)), add(5, -1000, dot(3, 8)),
		set(1, 0, dot(1, 2)), set(60, 1000, dot(8, 1), dot(1, 1)), set(5, 3, dot(2, 2), dot(2, 1), dot(2, 3)), set(5, 3, dot(2, 9), dotsOf(7, 2000)...),
		remove(), remove(dot(1, 1)), remove(dot(1, 1), dot(1, 2), dot(8, math.MaxUint64)), remove(dotsOf(4, 2000)...),
		clearAll(), clearAll(dot(1, 1)), clearAll(dot(5, 5), dot(6, 1)), clearAll(dotsOf(4, 2000)...),
	)
}

// wrongDots are such as may not be.
func wrongDots() []vec.Dot {
	return []vec.Dot{{}, dot(0, 1), dot(1, 0), dot(9, 1), dot(-1, 1), dot(1<<32+1, 1), dot(math.MaxInt, 1), dot(math.MinInt, 1)}
}

// wrongOffs are no sets.
func wrongOffs() [][]vec.Dot {
	l := [][]vec.Dot{
		{dot(1, 2), dot(1, 1)}, {dot(2, 1), dot(1, 1)}, {dot(1, 1), dot(1, 1)}, {dot(1, 1), dot(2, 2), dot(2, 2)}, dotsOf(4, 2001),
	}
	for _, d := range wrongDots() {
		l = append(l, []vec.Dot{d})
	}
	return l
}

// wrongEvents are such as may not be, for each reason that there is.
func wrongEvents() []edit.Event {
	l := of(
		edit.Event{}, edit.Event{Kind: 5}, edit.Event{Kind: -1}, edit.Event{Kind: math.MaxInt}, edit.Event{Kind: math.MinInt},
		edit.Event{Item: 5, Qty: 1, Dot: dot(1, 1)}, edit.Event{Kind: 5, Item: 5, Qty: 1, Dot: dot(1, 1)}, edit.Event{Kind: 1<<32 + 1, Item: 5, Qty: 1, Dot: dot(1, 1)},
		edit.Event{Kind: 5, Off: dotsOf(1, 1)}, edit.Event{Kind: 0, Off: dotsOf(1, 1)},
		add(0, 1, dot(1, 1)), add(61, 1, dot(1, 1)), add(-5, 1, dot(1, 1)), add(5, 0, dot(1, 1)), add(5, 1001, dot(1, 1)), add(5, -1001, dot(1, 1)), add(5, math.MinInt, dot(1, 1)),
		set(0, 1, dot(1, 1)), set(61, 1, dot(1, 1)), set(math.MaxInt, 1, dot(1, 1)), set(5, -1, dot(1, 1)), set(5, 1001, dot(1, 1)), set(5, -1000, dot(1, 1)),
		edit.Event{Kind: 1, Item: 5, Qty: 1, Dot: dot(1, 2), Off: dotsOf(1, 1)},
		set(5, 1, dot(1, 1), dot(1, 1)), set(5, 1, dot(2, 2), dot(1, 1), dot(2, 2), dot(3, 3)), set(5, 1, dot(4, 2000), dotsOf(4, 2000)...),
	)
	for _, kind := range []int{3, 4} {
		l = append(l, edit.Event{Kind: kind, Item: 5}, edit.Event{Kind: kind, Qty: 1}, edit.Event{Kind: kind, Qty: -1}, edit.Event{Kind: kind, Dot: dot(1, 1)},
			edit.Event{Kind: kind, Dot: dot(0, 1)}, edit.Event{Kind: kind, Dot: dot(1, 0)}, edit.Event{Kind: kind, Item: 5, Off: dotsOf(1, 2)})
	}
	for _, d := range wrongDots() {
		l = append(l, add(5, 1, d), set(5, 1, d))
	}
	for _, off := range wrongOffs() {
		l = append(l, set(5, 1, dot(8, 8), off...), remove(off...), clearAll(off...))
	}
	return l
}

// usual is a whole list, with each kind, an event that stands there twice, and an order in which no replica did them.
func usual() []edit.Event {
	return of(
		set(7, 4, dot(2, 2), dot(1, 2)),
		remove(dot(2, 1), dot(3, 1)),
		add(5, 3, dot(1, 1)),
		add(7, 2, dot(1, 2)),
		add(5, -1, dot(2, 1)),
		add(5, 3, dot(1, 1)),
		add(9, 1, dot(3, 1)),
		set(60, 0, dot(1, 3)),
		clearAll(dot(3, 1)),
	)
}

// usualCart is what it must be.
func usualCart() cart.Cart {
	return cart.Cart{Ctx: api.Vec{3, 2, 1}, L: []cart.Entry{entry(5, 1, 1, 3), entry(7, 2, 2, 4), entry(60, 1, 3, 0)}}
}

// draws are numbers by a short rule, each from 0 on and below what is asked for.
func draws(x uint32) func(n int) int {
	return func(n int) int { x = x*1664525 + 1013904223; return int(x>>8) % n }
}

// mixed is the same events, in another order.
func mixed(draw func(n int) int, l []edit.Event) []edit.Event {
	m := slices.Clone(l)
	for i := range m {
		j := draw(len(m))
		m[i], m[j] = m[j], m[i]
	}
	return m
}

// drawn is a few events, of few kinds of each field, so that many are equal; most may not be.
func drawn(draw func(n int) int) []edit.Event {
	var l []edit.Event
	for range draw(8) {
		x := edit.Event{Kind: draw(4), Item: draw(2), Qty: draw(3) - 1, Dot: dot(draw(3)-1, uint64(draw(2)))}
		for range draw(3) {
			x.Off = append(x.Off, dot(draw(2), uint64(draw(2))))
		}
		l = append(l, x)
	}
	return l
}

// is tells whether two events are equal, each field for itself.
func is(a, b edit.Event) bool {
	return a.Kind == b.Kind && a.Item == b.Item && a.Qty == b.Qty && a.Dot == b.Dot && slices.Equal(a.Off, b.Off)
}

// copied is the same events in new memory.
func copied(l []edit.Event) []edit.Event {
	c := slices.Clone(l)
	for i := range c {
		c[i].Off = slices.Clone(c[i].Off)
	}
	return c
}

// sameEvents holds events that came against those that should.
func sameEvents(t *testing.T, name string, got, want []edit.Event) {
	t.Helper()
	if !slices.EqualFunc(got, want, is) {
		t.Errorf("%s: %d events, %.300v, want %d, %.300v", name, len(got), got, len(want), want)
	}
}

// becomes holds the cart of a list against the one that should come.
func becomes(t *testing.T, name string, l []edit.Event, want cart.Cart) {
	t.Helper()
	got, e := Cart(l)
	if e != api.OK || got.Ctx != want.Ctx || !slices.Equal(got.L, want.L) {
		t.Errorf("%s: %v, %v, want %v", name, got, e, want)
	}
	if !Whole(l) {
		t.Errorf("%s: not whole", name)
	}
}

// refuses holds an error, and nothing beside it, against what should come.
func refuses(t *testing.T, name string, l []edit.Event, want api.Errno) {
	t.Helper()
	if got, e := Cart(l); e != want || got.Ctx != (api.Vec{}) || len(got.L) != 0 {
		t.Errorf("%s: %v, %v, want %v", name, got, e, want)
	}
	if Whole(l) != (want == api.ErrFull) {
		t.Errorf("%s: whole %v", name, Whole(l))
	}
}
