package dots

import (
	"iter"
	"slices"
	"sort"

	"maund/vec"
)

// right yields the dots that may be, of one list behind the other.
func right(lists ...[]vec.Dot) iter.Seq[vec.Dot] {
	return func(yield func(vec.Dot) bool) {
		for _, l := range lists {
			for _, d := range l {
				if vec.Right(d) && !yield(d) {
					return
				}
			}
		}
	}
}

// picked yields the dots of a that may be and that b has; those that b has not, if has is false. All of b count, even if they are too many for a set.
func picked(a, b []vec.Dot, has bool) iter.Seq[vec.Dot] {
	return func(yield func(vec.Dot) bool) {
		held := sorted(right(b))
		for d := range right(a) {
			if among(held, d) == has && !yield(d) {
				return
			}
		}
	}
}

// among tells whether d is in l, which is in order.
func among(l []vec.Dot, d vec.Dot) bool {
	at := sort.Search(len(l), func(i int) bool { return !vec.Less(l[i], d) })
	return at < len(l) && l[at] == d
}

// set is what is yielded, as a set; its first dots, if there are too many.
func set(yielded iter.Seq[vec.Dot]) []vec.Dot {
	all := sorted(yielded)
	return fresh(all[:min(len(all), most)])
}

// sorted is what is yielded, in order, each once.
func sorted(yielded iter.Seq[vec.Dot]) []vec.Dot {
	var all []vec.Dot
	for d := range yielded {
		all = append(all, d)
	}
	slices.SortFunc(all, func(a, b vec.Dot) int {
		switch {
		case vec.Less(a, b):
			return -1
		case vec.Less(b, a):
			return 1
		}
		return 0
	})
	return slices.Compact(all)
}

// fresh is a copy without room behind it.
func fresh(l []vec.Dot) []vec.Dot {
	c := make([]vec.Dot, len(l))
	copy(c, l)
	return c
}
