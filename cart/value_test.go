package cart

import (
	"math"
	"slices"
	"testing"

	"maund/api"
)

// P6.2: the entries of an item, in order; of a cart that may not be, as they stand.
func TestOf(t *testing.T) {
	c := usual()
	for item, want := range map[int][]Entry{5: c.L[:2], 7: c.L[2:5], 60: c.L[5:], 6: nil, 1: nil, 0: nil, -1: nil, 61: nil, math.MaxInt: nil, math.MinInt: nil} {
		sameEntries(t, "Of a usual cart", Of(c, item), want)
	}
	r := rough().L
	for item, want := range map[int][]Entry{7: {r[0], r[2], r[8]}, 5: {r[1], r[4], r[7]}, 61: {r[3]}, 0: {r[5]}, -4: {r[6]}, 8: nil} {
		sameEntries(t, "Of a cart that may not be", Of(rough(), item), want)
	}
	sameEntries(t, "Of nothing", Of(Cart{}, 5), nil)
	room := many(9, 6)
	sameEntries(t, "Of a piece", Of(Cart{Ctx: full, L: room[:2]}, 9), room[:2])
}

// P6.2: an item's quantity, and whether it is there: the document's example, and the edges.
func TestGet(t *testing.T) {
	for _, c := range []struct {
		cart  Cart
		item  int
		want  uint64
		there bool
	}{
		{Cart{Ctx: full, L: []Entry{entry(5, 1, 1, 2), entry(5, 2, 1, -3)}}, 5, 0, true},
		{usual(), 5, 0, true}, {usual(), 7, 1006, true}, {usual(), 60, 0, true},
		{usual(), 6, 0, false}, {usual(), 0, 0, false}, {usual(), -5, 0, false}, {usual(), 61, 0, false}, {usual(), math.MinInt, 0, false},
		{Cart{}, 1, 0, false}, {Cart{Ctx: full}, 1, 0, false},
		{Cart{Ctx: full, L: many(9, 400)}, 9, 800, true},
		{rough(), 7, 7, true}, {rough(), 5, 5009, true}, {rough(), 61, 2, true}, {rough(), 0, 5, true}, {rough(), -4, 0, true}, {rough(), 8, 0, false},
		{Cart{L: []Entry{entry(3, 1, 1, math.MaxInt), entry(3, 1, 1, math.MaxInt)}}, 3, 1 << 62, true},
		{Cart{L: []Entry{entry(3, 1, 1, math.MaxInt), entry(3, 1, 2, -5)}}, 3, 1<<62 - 5, true},
		{Cart{L: []Entry{entry(3, 1, 1, math.MinInt), entry(3, 1, 2, math.MaxInt), entry(3, 1, 2, 9)}}, 3, 0, true},
	} {
		if got, there := Get(c.cart, c.item); got != c.want || there != c.there {
			t.Errorf("Get of %d of %v: %d, %v, want %d, %v", c.item, c.cart, got, there, c.want, c.there)
		}
	}
}

// P6.2: a line of each item that is there, by Item.
func TestValue(t *testing.T) {
	sameLines(t, "Value of a usual cart", Value(usual()), []Line{{5, 0}, {7, 1006}, {60, 0}})
	sameLines(t, "Value of a cart that may not be", Value(rough()), []Line{{-4, 0}, {0, 5}, {5, 5009}, {7, 7}, {61, 2}})
	sameLines(t, "Value of nothing", Value(Cart{}), nil)
	sameLines(t, "Value of no entries", Value(Cart{Ctx: full, L: []Entry{}}), nil)
	sameLines(t, "Value of one item", Value(Cart{Ctx: full, L: many(9, 400)}), []Line{{9, 800}})
	sameLines(t, "Value of the first and the last item", Value(Cart{L: []Entry{entry(math.MaxInt, 1, 1, 1), entry(math.MinInt, 1, 1, 2)}}), []Line{{math.MinInt, 2}, {math.MaxInt, 1}})
	room := append(many(9, 3), many(10, 3)...)
	sameLines(t, "Value of a piece", Value(Cart{Ctx: full, L: room[:3]}), []Line{{9, 3}})
	var each []Entry
	var want []Line
	for item := 1; item <= api.MaxItem; item++ {
		each = append(each, entry(item, 2, uint64(item), item))
		want = append(want, Line{item, uint64(item)})
	}
	sameLines(t, "Value of each item", Value(Cart{Ctx: full, L: each}), want)
}

// P6.2: the same lines in the same order.
func TestSameValue(t *testing.T) {
	l := []Line{{5, 0}, {7, 1006}, {60, math.MaxUint64}, {7, 1}}
	if !SameValue(l, slices.Clone(l)) || !SameValue(nil, nil) || !SameValue(nil, []Line{}) || !SameValue([]Line{}, nil) {
		t.Errorf("what is the same is not")
	}
	long := append(slices.Clone(l), Line{8, 8})
	if !SameValue(long[:4], l) {
		t.Errorf("what stands behind a list counts")
	}
	for _, other := range [][]Line{
		nil, l[:3], l[1:], long,
		{{7, 1006}, {5, 0}, {60, math.MaxUint64}, {7, 1}},
		{{5, 1}, {7, 1006}, {60, math.MaxUint64}, {7, 1}},
		{{5, 0}, {7, 1006}, {60, math.MaxUint64}, {8, 1}},
	} {
		if SameValue(l, other) || SameValue(other, l) {
			t.Errorf("%v is the same as %v", l, other)
		}
	}
}

// P6.3: the value has each item once, goes with Get and Of, and hangs on the entries alone, whichever way they stand.
func TestValueHangsOnEntries(t *testing.T) {
	draw := draws(6)
	for range 3000 {
		c := drawn(draw)
		value := Value(c)
		entries := 0
		for i, line := range value {
			if i > 0 && value[i-1].Item >= line.Item {
				t.Fatalf("Value of %v: %v", c, value)
			}
			of := Of(c, line.Item)
			sum := 0
			for _, e := range of {
				sum += e.Qty
			}
			entries += len(of)
			if n, there := Get(c, line.Item); !there || n != line.Qty || n != uint64(max(sum, 0)) {
				t.Fatalf("Get of %d of %v: %d, %v, its line %v", line.Item, c, n, there, line)
			}
		}
		if entries != len(c.L) {
			t.Fatalf("Value of %v leaves entries out: %v", c, value)
		}
		sameLines(t, "Value of another context", Value(Cart{Ctx: api.Vec{9, 9, 9}, L: c.L}), value)
		sameLines(t, "Value of the entries backward", Value(Cart{L: backward(c.L)}), value)
	}
}
