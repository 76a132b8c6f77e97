package cart

import (
	"sort"

	"maund/api"
	"maund/dots"
	"maund/vec"
)

// Entry is an event that counts.
type Entry struct {
	Item, Node int
	N          uint64
	Qty        int
}

// Dot is an entry's dot.
func Dot(e Entry) vec.Dot { return vec.Dot{Node: e.Node, N: e.N} }

// Order is entries in order.
func Order(l []Entry) []Entry {
	ordered := make([]Entry, len(l))
	copy(ordered, l)
	sort.Slice(ordered, func(i, j int) bool { return less(ordered[i], ordered[j]) })
	return ordered
}

// Live is the dots of all entries, as a set.
func Live(c Cart) []vec.Dot {
	live := make([]vec.Dot, len(c.L))
	for i, e := range c.L {
		live[i] = Dot(e)
	}
	return dots.Of(live...)
}

// right tells whether an entry may be where that much is covered.
func right(e Entry, covered api.Vec) bool {
	return 1 <= e.Item && e.Item <= api.MaxItem &&
		-api.MaxQty <= e.Qty && e.Qty <= api.MaxQty &&
		vec.Has(covered, Dot(e))
}

// less tells whether a is ahead of b: by Item, then by dots, then by Qty.
func less(a, b Entry) bool {
	switch {
	case a.Item != b.Item:
		return a.Item < b.Item
	case Dot(a) != Dot(b):
		return vec.Less(Dot(a), Dot(b))
	}
	return a.Qty < b.Qty
}
