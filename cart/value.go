package cart

import (
	"slices"
	"sort"

	"maund/tally"
)

// Line is an item, and how many there are.
type Line struct {
	Item int
	Qty  uint64
}

// Of is the entries of an item, as they stand: in order, if the cart may be.
func Of(c Cart, item int) []Entry {
	var of []Entry
	for _, e := range c.L {
		if e.Item == item {
			of = append(of, e)
		}
	}
	return of
}

// Get is an item's quantity, and whether it is there.
func Get(c Cart, item int) (uint64, bool) {
	of := Of(c, item)
	return quantity(of), len(of) > 0
}

// Value is a line of each item that is there, by Item. It orders the entries, for a cart that may not be has them anywhere.
func Value(c Cart) []Line {
	var lines []Line
	for rest := Order(c.L); len(rest) > 0; {
		item := rest[0].Item
		end := sort.Search(len(rest), func(i int) bool { return rest[i].Item > item })
		lines = append(lines, Line{Item: item, Qty: quantity(rest[:end])})
		rest = rest[end:]
	}
	return lines
}

// SameValue tells whether lines are the same, in the same order.
func SameValue(a, b []Line) bool { return slices.Equal(a, b) }

// quantity is the value of the tally of what entries count.
func quantity(l []Entry) uint64 {
	counts := make([]int, len(l))
	for i, e := range l {
		counts[i] = e.Qty
	}
	return tally.Value(tally.Sum(counts...))
}
