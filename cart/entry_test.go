package cart

import (
	"math"
	"slices"
	"testing"

	"maund/api"
	"maund/vec"
)

// P6.1: Node and N, of whatever entry.
func TestDot(t *testing.T) {
	for _, e := range append(usual().L, append(rough().L, entry(math.MinInt, math.MinInt, math.MaxUint64, 3))...) {
		if got := Dot(e); got != (vec.Dot{Node: e.Node, N: e.N}) {
			t.Errorf("Dot of %v: %v", e, got)
		}
	}
}

// P6.1: by Item, then Node, then N, then Qty; each entry as often as it stands there.
func TestOrder(t *testing.T) {
	want := []Entry{
		entry(math.MinInt, 9, 9, 9), entry(-1, 1, 1, 1), entry(0, 0, 0, 0),
		entry(1, -1, 5, 0), entry(1, 0, 7, 0), entry(1, 1, 0, 0), entry(1, 1, 1, math.MinInt), entry(1, 1, 1, -3), entry(1, 1, 1, -3), entry(1, 1, 1, 2), entry(1, 1, 1, math.MaxInt),
		entry(1, 1, 2, -9), entry(1, 1, math.MaxUint64, 1), entry(1, 2, 1, -1), entry(1, 9, 1, 1),
		entry(2, 1, 1, 1), entry(60, 8, 1, 1), entry(math.MaxInt, 0, 0, 0),
	}
	sameEntries(t, "Order of what is in order", Order(want), want)
	sameEntries(t, "Order of what is backward", Order(backward(want)), want)
	draw := draws(17)
	for range 300 {
		mixed := slices.Clone(want)
		for i := range mixed {
			j := draw(len(mixed))
			mixed[i], mixed[j] = mixed[j], mixed[i]
		}
		was := slices.Clone(mixed)
		sameEntries(t, "Order", Order(mixed), want)
		sameEntries(t, "what was ordered", mixed, was)
	}
	sameEntries(t, "Order of nothing", Order(nil), nil)
	sameEntries(t, "Order of an empty list", Order([]Entry{}), nil)
	sameEntries(t, "Order of a piece", Order(backward(many(3, 20))[4:8]), many(3, 16)[12:])
	sameEntries(t, "Order of more than a cart has", Order(backward(many(3, 5000))), many(3, 5000))
}

// P6.2: the dots of all entries, as a set.
func TestLive(t *testing.T) {
	sameDots(t, "Live of a usual cart", Live(usual()), []vec.Dot{
		{Node: 1, N: 1}, {Node: 1, N: 2}, {Node: 1, N: 4}, {Node: 2, N: 1}, {Node: 2, N: 3}, {Node: 8, N: 9},
	})
	sameDots(t, "Live of a cart that may not be", Live(rough()), []vec.Dot{
		{Node: 1, N: 1}, {Node: 1, N: 2}, {Node: 1, N: 9}, {Node: 2, N: 3},
	})
	sameDots(t, "Live of nothing", Live(Cart{}), nil)
	sameDots(t, "Live of no entries", Live(Cart{Ctx: full, L: []Entry{}}), nil)
	var first []vec.Dot
	for n := range uint64(2000) {
		first = append(first, vec.Dot{Node: 3, N: n + 1})
	}
	sameDots(t, "Live of too many", Live(Cart{L: append(backward(many(5, 2500)), entry(1, 4, 1, 1))}), first)
	sameDots(t, "Live of what the context does not cover", Live(Cart{Ctx: api.Vec{1}, L: []Entry{entry(5, 2, 2, 1)}}), []vec.Dot{{Node: 2, N: 2}})
}
