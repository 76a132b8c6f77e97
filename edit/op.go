package edit

import (
	"maund/api"
	"maund/wire"
)

// The kinds of ops.
const (
	kindAdd = iota + 1
	kindSet
	kindRemove
	kindClear
)

// Op is what is asked for.
type Op struct{ Kind, Item, Qty int }

// May tells whether an op may be.
func May(o Op) bool {
	isItem := 1 <= o.Item && o.Item <= api.MaxItem
	switch o.Kind {
	case kindAdd:
		return isItem && o.Qty != 0 && -api.MaxQty <= o.Qty && o.Qty <= api.MaxQty
	case kindSet:
		return isItem && 0 <= o.Qty && o.Qty <= api.MaxQty
	case kindRemove:
		return isItem && o == Op{Kind: kindRemove, Item: o.Item}
	}
	return o == Op{Kind: kindClear}
}

// Put writes an op behind others; a Kind or an Item below 0 as 0, which is none either.
func Put(w *wire.Writer, o Op) {
	w.Num(uint64(max(o.Kind, 0)))
	w.Num(uint64(max(o.Item, 0)))
	w.Int(o.Qty)
}

// Take is the op that stands here; a fault, and a zero op, if it may not be. A Kind or an Item that is too great is a fault where it stands; how they go together is asked when all is read.
func Take(r *wire.Reader) Op {
	kind := r.Small(kindClear)
	item := r.Small(api.MaxItem)
	o := Op{Kind: kind, Item: item, Qty: r.Int()}
	r.Must(May(o))
	if r.Err() != api.OK {
		return Op{}
	}
	return o
}
