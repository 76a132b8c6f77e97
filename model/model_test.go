package model

import (
	"math"
	"slices"
	"testing"

	"maund/api"
	"maund/cart"
	"maund/dots"
	"maund/edit"
	"maund/vec"
)

// P9.1: the document's example, and the carts of whole lists.
func TestCart(t *testing.T) {
	one, two := dot(1, 1), dot(1, 2)
	becomes(t, "no events", nil, cart.Cart{})
	becomes(t, "none in a list", of(), cart.Cart{})
	becomes(t, "each kind", usual(), usualCart())
	becomes(t, "an add", of(add(5, -3, one)), cart.Cart{Ctx: api.Vec{1}, L: []cart.Entry{entry(5, 1, 1, -3)}})
	becomes(t, "an add, twice", of(add(5, 3, one), add(5, 3, one)), cart.Cart{Ctx: api.Vec{1}, L: []cart.Entry{entry(5, 1, 1, 3)}})
	becomes(t, "a set to 0", of(set(5, 0, dot(8, 1))), cart.Cart{Ctx: api.Vec{0, 0, 0, 0, 0, 0, 0, 1}, L: []cart.Entry{entry(5, 8, 1, 0)}})
	becomes(t, "a set, twice", of(add(5, 3, one), set(5, 4, two, one), set(5, 4, two, one)), cart.Cart{Ctx: api.Vec{2}, L: []cart.Entry{entry(5, 1, 2, 4)}})
	becomes(t, "a set ahead of what it let go", of(set(5, 4, two, one), add(5, 3, one)), cart.Cart{Ctx: api.Vec{2}, L: []cart.Entry{entry(5, 1, 2, 4)}})
	becomes(t, "removed", of(add(5, 3, one), remove(one)), cart.Cart{Ctx: api.Vec{1}})
	becomes(t, "removed ahead", of(remove(one), add(5, 3, one)), cart.Cart{Ctx: api.Vec{1}})
	becomes(t, "cleared", of(add(5, 3, one), set(6, 3, two), clearAll(one, two)), cart.Cart{Ctx: api.Vec{2}})
	becomes(t, "what a clear did not see", of(add(5, 3, one), add(6, 3, two), clearAll(one)), cart.Cart{Ctx: api.Vec{2}, L: []cart.Entry{entry(6, 1, 2, 3)}})
	becomes(t, "a set let go", of(set(5, 3, one), remove(one)), cart.Cart{Ctx: api.Vec{1}})
	becomes(t, "each lets the other one go", of(set(5, 1, one, two), set(5, 2, two, one)), cart.Cart{Ctx: api.Vec{2}})
	becomes(t, "removes of nothing", of(remove(), clearAll()), cart.Cart{})
	becomes(t, "another item's dot", of(add(5, 3, one), set(6, 4, two, one)), cart.Cart{Ctx: api.Vec{2}, L: []cart.Entry{entry(6, 1, 2, 4)}})
	becomes(t, "in order", of(add(9, 1, dot(1, 1)), add(5, 1, dot(2, 1)), add(9, 2, dot(2, 2)), add(5, 2, dot(1, 2)), add(1, 7, dot(8, 1)), add(5, 3, dot(1, 3))),
		cart.Cart{Ctx: api.Vec{3, 2, 0, 0, 0, 0, 0, 1}, L: []cart.Entry{entry(1, 8, 1, 7), entry(5, 1, 2, 2), entry(5, 1, 3, 3), entry(5, 2, 1, 1), entry(9, 1, 1, 1), entry(9, 2, 2, 2)}})
	room := append(of(add(5, 3, one)), remove(one))
	becomes(t, "what stands behind a list", room[:1], cart.Cart{Ctx: api.Vec{1}, L: []cart.Entry{entry(5, 1, 1, 3)}})
}

// P9.1: ErrState of each list that is not whole.
func TestNotWhole(t *testing.T) {
	one, two := dot(1, 1), dot(1, 2)
	for name, l := range map[string][]edit.Event{
		"a dot of an add and another quantity":       of(add(5, 3, one), add(5, 4, one)),
		"a dot of an add and another item":           of(add(5, 3, one), add(6, 3, one)),
		"a dot of a set and another off":             of(add(5, 3, one), set(5, 3, two), set(5, 3, two, one)),
		"a dot of an add and a set":                  of(add(5, 3, one), set(5, 3, one)),
		"a dot of three, the last one unlike":        of(add(5, 3, one), add(5, 3, one), add(6, 1, two), add(5, 2, one)),
		"a dot of two, that is off":                  of(add(5, 3, one), add(5, 4, one), remove(one)),
		"not from 1 on":                              of(add(5, 3, two)),
		"not from 1 on, the greatest one":            of(add(5, 3, dot(8, math.MaxUint64))),
		"a gap":                                      of(add(5, 3, one), add(5, 4, dot(1, 3))),
		"a gap of one node":                          of(add(5, 3, one), add(5, 3, dot(2, 1)), add(5, 4, dot(2, 3))),
		"a gap where a dot went off":                 of(add(5, 3, one), set(5, 4, dot(1, 3), one, two)),
		"an off of nothing":                          of(remove(one)),
		"an off of a dot that is not there":          of(add(5, 3, one), remove(one, two)),
		"an off of a node that is not there":         of(add(5, 3, one), clearAll(dot(2, 1))),
		"an off of a set that is not there":          of(set(5, 3, one, two)),
		"an off of a great dot":                      of(add(5, 3, one), remove(dot(1, math.MaxUint64))),
		"an off of dots of other nodes, that may be": of(add(5, 3, one), remove(dot(1, 1), dot(3, 1), dot(8, 8))),
	} {
		refuses(t, name, l, api.ErrState)
		slices.Reverse(l)
		refuses(t, name+", the other way", l, api.ErrState)
	}
	for _, x := range wrongEvents() {
		refuses(t, "an event that may not be", of(x), api.ErrState)
		refuses(t, "one that may not be, ahead", append(of(x), usual()...), api.ErrState)
		refuses(t, "one that may not be, behind", append(usual(), x), api.ErrState)
		refuses(t, "one that may not be, twice", append(usual(), x, x), api.ErrState)
	}
}

// P9.1: at most MaxJoined entries, each counted once; ErrState stands ahead of that.
func TestCartFull(t *testing.T) {
	l := append(run(9, 3, 200), run(8, 4, 200)...)
	got, e := Cart(l)
	if e != api.OK || len(got.L) != 400 || !cart.Right(got) {
		t.Errorf("400 entries: %d, %v", len(got.L), e)
	}
	got, e = Cart(append(l, l...))
	if e != api.OK || len(got.L) != 400 {
		t.Errorf("400 entries, twice: %d, %v", len(got.L), e)
	}
	over := append(slices.Clone(l), add(1, 1, dot(1, 1)))
	refuses(t, "401 entries", over, api.ErrFull)
	refuses(t, "401 entries, and an unlike one", append(slices.Clone(over), add(1, 2, dot(1, 1))), api.ErrState)
	refuses(t, "401 entries, and a gap", append(slices.Clone(l), add(1, 1, dot(1, 2))), api.ErrState)
	got, e = Cart(append(slices.Clone(over), remove(dot(3, 7))))
	if e != api.OK || len(got.L) != 400 || !cart.Right(got) {
		t.Errorf("401 entries, one off: %d, %v", len(got.L), e)
	}
}

// P9.1: a set has at most 2000 dots; of more, the first ones are the dots of a list.
func TestMost(t *testing.T) {
	l := append(run(9, 3, 2000), remove(dotsOf(3, 1900)...))
	got, e := Cart(l)
	if e != api.OK || len(got.L) != 100 || got.Ctx != (api.Vec{0, 0, 2000}) || !cart.Right(got) {
		t.Errorf("2000 dots: %d entries, %v, %v", len(got.L), got.Ctx, e)
	}
	over := append(run(9, 3, 2001), remove(dotsOf(3, 1900)...))
	if got := Dots(over); !slices.Equal(got, dotsOf(3, 2000)) {
		t.Errorf("2001 dots: %d", len(got))
	}
	if !Whole(over) || Whole(append(over, remove(dot(3, 2001)))) {
		t.Errorf("2001 dots: whole %v, the last one off %v", Whole(over), Whole(append(over, remove(dot(3, 2001)))))
	}
}

// P9.1: the dots of the adds and sets that may be, as a set.
func TestDots(t *testing.T) {
	for name, c := range map[string]struct {
		l    []edit.Event
		want []vec.Dot
	}{
		"nothing":          {nil, nil},
		"each kind":        {usual(), []vec.Dot{dot(1, 1), dot(1, 2), dot(1, 3), dot(2, 1), dot(2, 2), dot(3, 1)}},
		"gaps":             {of(set(5, 1, dot(8, math.MaxUint64)), add(5, 1, dot(1, 7))), []vec.Dot{dot(1, 7), dot(8, math.MaxUint64)}},
		"unlike ones":      {of(add(5, 1, dot(2, 2)), add(5, 2, dot(2, 2))), []vec.Dot{dot(2, 2)}},
		"offs alone":       {of(remove(dot(1, 1)), clearAll(dot(1, 1))), nil},
		"offs not there":   {of(set(5, 1, dot(1, 3), dot(1, 1))), []vec.Dot{dot(1, 3)}},
		"wrong events":     {wrongEvents(), nil},
		"wrong ones, too":  {append(wrongEvents(), usual()...), dots.Of(dot(1, 1), dot(1, 2), dot(1, 3), dot(2, 1), dot(2, 2), dot(3, 1))},
		"wrong but in off": {of(set(5, 1, dot(1, 2), dot(1, 2)), set(5, 1, dot(1, 1), dot(1, 2))), []vec.Dot{dot(1, 1)}},
	} {
		if got := Dots(c.l); !slices.Equal(got, c.want) {
			t.Errorf("%s: %v, want %v", name, got, c.want)
		}
	}
	room := run(5, 1, 3)
	if got := Dots(room[:2]); !slices.Equal(got, dotsOf(1, 2)) {
		t.Errorf("what stands behind a list counts: %v", got)
	}
}

// P9.1: of any lists, told by the words; and what is told goes together.
func TestCartOfAny(t *testing.T) {
	draw := draws(77)
	whole, full := 0, 0
	for range 30000 {
		l := drawnNear(draw)
		want := isWhole(l)
		if Whole(l) != want {
			t.Fatalf("Whole of %v: %v", l, !want)
		}
		got, e := Cart(l)
		if !want {
			if e != api.ErrState || got.Ctx != (api.Vec{}) || len(got.L) != 0 {
				t.Fatalf("Cart of %v: %v, %v", l, got, e)
			}
			continue
		}
		whole++
		if len(got.L) > 0 {
			full++
		}
		if e != api.OK || !cart.Right(got) || got.Ctx != dots.Span(Dots(l)) {
			t.Fatalf("Cart of %v: %v, %v", l, got, e)
		}
		for _, d := range Dots(l) {
			off := slices.ContainsFunc(l, func(x edit.Event) bool { return slices.Contains(x.Off, d) })
			at := slices.IndexFunc(l, func(x edit.Event) bool { return x.Kind <= 2 && x.Dot == d })
			live := slices.Contains(got.L, entry(l[at].Item, d.Node, d.N, l[at].Qty))
			if live == off || cart.IsOff(got, d) != off {
				t.Fatalf("%v of %v: off %v, live %v", d, l, off, live)
			}
		}
	}
	if whole < 3000 || whole > 27000 || full < 1000 {
		t.Errorf("%d of 30000 are whole, %d have entries", whole, full)
	}
}

// drawnNear is a few events that nearly make a whole list.
func drawnNear(draw func(n int) int) []edit.Event {
	var l []edit.Event
	var next [3]uint64
	for range draw(6) {
		node := draw(3)
		next[node]++
		if draw(12) == 0 {
			next[node]++
		}
		l = append(l, add(1+draw(2), 1+draw(2), dot(node+1, next[node])))
	}
	for range draw(3) {
		off := dots.Of(dot(1+draw(3), uint64(1+draw(2))), dot(1+draw(3), uint64(1+draw(2))))
		switch draw(3) {
		case 0:
			l = append(l, remove(off...))
		case 1:
			next[0]++
			l = append(l, set(1, draw(3), dot(1, next[0]), off...))
		}
	}
	if len(l) > 0 && draw(3) == 0 {
		twice := l[draw(len(l))]
		if draw(3) == 0 {
			twice.Item++
		}
		l = append(l, twice)
	}
	return mixed(draw, l)
}

// isWhole tells whether a list of few dots is whole, each by each.
func isWhole(l []edit.Event) bool {
	there := func(d vec.Dot) bool {
		return slices.ContainsFunc(l, func(x edit.Event) bool { return x.Kind <= 2 && x.Dot == d })
	}
	for _, x := range l {
		if !Right(x) {
			return false
		}
		if x.Kind <= 2 && x.Dot.N > 1 && !there(dot(x.Dot.Node, x.Dot.N-1)) {
			return false
		}
		for _, d := range x.Off {
			if !there(d) {
				return false
			}
		}
		for _, y := range l {
			if x.Kind <= 2 && y.Kind <= 2 && x.Dot == y.Dot && !is(x, y) {
				return false
			}
		}
	}
	return true
}

// P9.4: the cart does not hang on the order of events, or on how often one stands there.
func TestCartHangsOnEvents(t *testing.T) {
	draw := draws(4)
	for range 300 {
		l := usual()
		for range draw(12) {
			l = append(l, l[draw(len(l))])
		}
		becomes(t, "mixed", mixed(draw, l), usualCart())
	}
}
