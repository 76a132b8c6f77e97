package model

import (
	"slices"

	"maund/dots"
	"maund/edit"
	"maund/vec"
	"maund/wire"
)

// The kinds of events are those of ops.
const (
	kindAdd = iota + 1
	kindSet
	kindRemove
	kindClear
)

// Right tells whether an event may be: what it did, and what went off by it.
func Right(x edit.Event) bool {
	if !dots.Right(x.Off) || dots.Has(x.Off, x.Dot) {
		return false
	}
	switch x.Kind {
	case kindAdd:
		return counts(x) && len(x.Off) == 0
	case kindSet:
		return counts(x)
	case kindRemove, kindClear:
		return edit.Same(x, edit.Event{Kind: x.Kind, Off: x.Off})
	}
	return false
}

// Has tells whether an equal event is in a list.
func Has(l []edit.Event, x edit.Event) bool {
	return slices.ContainsFunc(l, func(y edit.Event) bool { return edit.Same(x, y) })
}

// Union is the events of a, and behind them those of b, each once, as it stands first.
func Union(a, b []edit.Event) []edit.Event {
	var union []edit.Event
	there := map[string]struct{}{}
	for _, l := range [][]edit.Event{a, b} {
		for _, x := range l {
			n := name(x)
			if _, is := there[n]; !is {
				there[n] = struct{}{}
				union = append(union, fresh(x))
			}
		}
	}
	return union
}

// Subset tells whether b has each event of a.
func Subset(a, b []edit.Event) bool {
	there := map[string]struct{}{}
	for _, x := range b {
		there[name(x)] = struct{}{}
	}
	return !slices.ContainsFunc(a, func(x edit.Event) bool {
		_, is := there[name(x)]
		return !is
	})
}

// isCount tells whether an event is an add or a set, which alone have dots.
func isCount(x edit.Event) bool { return x.Kind == kindAdd || x.Kind == kindSet }

// counts tells whether an add or a set may count what it says, by its dot.
func counts(x edit.Event) bool {
	return edit.May(edit.Op{Kind: x.Kind, Item: x.Item, Qty: x.Qty}) && vec.Right(x.Dot)
}

// name is a text that equal events share, and unlike ones do not, whether they may be or not. Long lists are gone through by it, for to hold each event against each would take too long.
func name(x edit.Event) string {
	var w wire.Writer
	for _, n := range []int{x.Kind, x.Item, x.Qty} {
		w.Int(n)
	}
	for _, d := range append([]vec.Dot{x.Dot}, x.Off...) {
		w.Int(d.Node)
		w.Num(d.N)
	}
	return string(w.Bytes())
}

// fresh is the same event in new memory.
func fresh(x edit.Event) edit.Event {
	off := make([]vec.Dot, len(x.Off))
	copy(off, x.Off)
	x.Off = off
	return x
}
