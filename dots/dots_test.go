package dots

import (
	"math"
	"slices"
	"testing"

	"maund/api"
	"maund/vec"
)

// dot is a short way to write one.
func dot(node int, n uint64) vec.Dot { return vec.Dot{Node: node, N: n} }

// run is n dots of a node, from the first one on.
func run(node int, first uint64, n int) []vec.Dot {
	var l []vec.Dot
	for i := range n {
		l = append(l, dot(node, first+uint64(i)))
	}
	return l
}

// wrongDots are such as may not be.
func wrongDots() []vec.Dot {
	return []vec.Dot{
		{}, dot(0, 1), dot(1, 0), dot(8, 0), dot(9, 1), dot(-1, 1), dot(9, 0),
		dot(math.MaxInt, 3), dot(math.MinInt, 3), dot(1<<32+1, 1),
	}
}

// backward is a copy, the last one first.
func backward(l []vec.Dot) []vec.Dot {
	c := slices.Clone(l)
	slices.Reverse(c)
	return c
}

// hold holds what came against what should.
func hold(t *testing.T, name string, got, want []vec.Dot) {
	t.Helper()
	if !slices.Equal(got, want) {
		t.Errorf("%s: %d dots, %v, want %d, %v", name, len(got), first(got), len(want), first(want))
	}
}

// first is some dots of a list, to be told.
func first(l []vec.Dot) []vec.Dot { return l[:min(len(l), 12)] }

// P4.1: a set is dots that may be, in order, each once, at most 2000.
func TestRight(t *testing.T) {
	for _, l := range [][]vec.Dot{
		nil,
		{},
		{dot(1, 1)},
		{dot(8, math.MaxUint64)},
		{dot(1, 1), dot(1, 2)},
		{dot(1, 5), dot(2, 1), dot(2, 9), dot(8, 2)},
		run(3, 7, 2000),
		append(run(1, 1, 1000), run(2, 1, 1000)...),
	} {
		if !Right(l) {
			t.Errorf("%v is no set", first(l))
		}
	}
	for _, l := range [][]vec.Dot{
		{dot(1, 2), dot(1, 1)},
		{dot(2, 1), dot(1, 2)},
		{dot(1, 1), dot(1, 1)},
		{dot(1, 1), dot(2, 2), dot(2, 2)},
		{dot(1, 1), dot(3, 2), dot(2, 3)},
		run(3, 7, 2001),
		append(run(1, 1, 2000), dot(2, 1)),
	} {
		if Right(l) {
			t.Errorf("%v is a set", first(l))
		}
	}
	for _, d := range wrongDots() {
		l := []vec.Dot{dot(1, 1), dot(5, 5), d}
		slices.SortFunc(l, func(a, b vec.Dot) int {
			if vec.Less(a, b) {
				return -1
			}
			return 1
		})
		if Right(l) || Right([]vec.Dot{d}) {
			t.Errorf("%v is a set", l)
		}
	}
}

// P4.1: Of leaves out what may not be, sorts, and has each once.
func TestOf(t *testing.T) {
	hold(t, "none", Of(), nil)
	hold(t, "nil", Of([]vec.Dot(nil)...), nil)
	hold(t, "one", Of(dot(3, 4)), []vec.Dot{dot(3, 4)})
	hold(t, "some", Of(dot(2, 1), dot(1, 9), dot(2, 1), dot(1, 2), dot(8, 1), dot(1, 9), dot(1, math.MaxUint64)),
		[]vec.Dot{dot(1, 2), dot(1, 9), dot(1, math.MaxUint64), dot(2, 1), dot(8, 1)})
	hold(t, "wrong ones", Of(wrongDots()...), nil)
	hold(t, "wrong ones too", Of(append(wrongDots(), dot(4, 4), dot(1, 1), dot(0, 3))...), []vec.Dot{dot(1, 1), dot(4, 4)})
}

// P4.1: of more than 2000, the first ones, by the order of dots, not by where they stood.
func TestOfMost(t *testing.T) {
	hold(t, "2000", Of(backward(run(1, 1, 2000))...), run(1, 1, 2000))
	hold(t, "2001", Of(backward(run(1, 1, 2001))...), run(1, 1, 2000))
	l := append(run(2, 1, 1500), run(1, 1, 1500)...)
	hold(t, "3000", Of(l...), append(run(1, 1, 1500), run(2, 1, 500)...))
	twice := append(run(1, 1, 2000), run(1, 1, 2000)...)
	hold(t, "each twice", Of(twice...), run(1, 1, 2000))
	wrong := append(run(1, 1, 2000), make([]vec.Dot, 3000)...)
	hold(t, "with wrong ones", Of(wrong...), run(1, 1, 2000))
}

// P4.1: what is in a list, whatever list it is.
func TestHas(t *testing.T) {
	set := []vec.Dot{dot(1, 1), dot(1, 3), dot(4, 2)}
	mixed := []vec.Dot{dot(4, 2), dot(1, 3), dot(0, 0), dot(1, 3), dot(1, 1)}
	for _, d := range []vec.Dot{dot(1, 1), dot(1, 3), dot(4, 2)} {
		if !Has(set, d) || !Has(mixed, d) {
			t.Errorf("%v is not there", d)
		}
	}
	for _, d := range []vec.Dot{dot(1, 2), dot(1, 4), dot(4, 1), dot(4, 3), dot(3, 2), dot(8, 8), dot(-1, 1)} {
		if Has(set, d) || Has(mixed, d) || Has(nil, d) {
			t.Errorf("%v is there", d)
		}
	}
	if Has(set, vec.Dot{}) || !Has(mixed, vec.Dot{}) {
		t.Errorf("a dot that may not be: %v, %v", Has(set, vec.Dot{}), Has(mixed, vec.Dot{}))
	}
	if !Has(run(1, 1, 3000), dot(1, 3000)) {
		t.Errorf("the last one of 3000 is not there")
	}
	if Has(mixed[:1], dot(1, 3)) {
		t.Errorf("what stands behind a list is there")
	}
}

// P4.1: the document's example, and what stands in one, the other, or both.
func TestJoinMeetMinus(t *testing.T) {
	hold(t, "the example", Minus([]vec.Dot{dot(1, 1), dot(2, 3)}, []vec.Dot{dot(2, 3)}), []vec.Dot{dot(1, 1)})
	a := []vec.Dot{dot(1, 1), dot(1, 2), dot(3, 1), dot(5, 9)}
	b := []vec.Dot{dot(1, 2), dot(2, 7), dot(5, 9), dot(8, 8)}
	hold(t, "Join", Join(a, b), []vec.Dot{dot(1, 1), dot(1, 2), dot(2, 7), dot(3, 1), dot(5, 9), dot(8, 8)})
	hold(t, "Meet", Meet(a, b), []vec.Dot{dot(1, 2), dot(5, 9)})
	hold(t, "Minus", Minus(a, b), []vec.Dot{dot(1, 1), dot(3, 1)})
	hold(t, "Minus, the other way", Minus(b, a), []vec.Dot{dot(2, 7), dot(8, 8)})
	for _, none := range [][]vec.Dot{nil, {}} {
		hold(t, "Join with none", Join(a, none), a)
		hold(t, "Join of none", Join(none, b), b)
		hold(t, "Meet with none", Meet(a, none), nil)
		hold(t, "Meet of none", Meet(none, b), nil)
		hold(t, "Minus none", Minus(a, none), a)
		hold(t, "Minus of none", Minus(none, b), nil)
	}
	hold(t, "Minus itself", Minus(a, a), nil)
	hold(t, "Meet itself", Meet(a, a), a)
}

// P4.1: lists that are no sets are made sets: sorted, each once, without what may not be.
func TestJoinMeetMinusOfLists(t *testing.T) {
	a := append(wrongDots(), dot(4, 1), dot(1, 2), dot(4, 1), dot(1, 1), dot(2, 2), dot(1, 1))
	b := append(wrongDots(), dot(6, 6), dot(4, 1), dot(1, 2), dot(6, 6), dot(4, 1))
	hold(t, "Join", Join(a, b), []vec.Dot{dot(1, 1), dot(1, 2), dot(2, 2), dot(4, 1), dot(6, 6)})
	hold(t, "Meet", Meet(a, b), []vec.Dot{dot(1, 2), dot(4, 1)})
	hold(t, "Minus", Minus(a, b), []vec.Dot{dot(1, 1), dot(2, 2)})
	hold(t, "Minus none", Minus(a, nil), []vec.Dot{dot(1, 1), dot(1, 2), dot(2, 2), dot(4, 1)})
}

// P4.1: of more than 2000, the first ones; but what stands behind the first 2000 of b counts.
func TestJoinMeetMinusMost(t *testing.T) {
	hold(t, "Join", Join(run(2, 1, 1500), run(1, 1, 1500)), append(run(1, 1, 1500), run(2, 1, 500)...))
	hold(t, "Join of 2000", Join(run(2, 1, 1000), run(1, 1, 1000)), append(run(1, 1, 1000), run(2, 1, 1000)...))
	all := run(1, 1, 3000)
	hold(t, "Meet", Meet(backward(all), all), all[:2000])
	hold(t, "Minus", Minus(backward(all), nil), all[:2000])
	hold(t, "Meet of the last ones", Meet(all[2500:], all), all[2500:])
	hold(t, "Meet with the last ones", Meet(all, all[2500:]), all[2500:])
	hold(t, "Minus of the last ones", Minus(all[2500:], all), nil)
	hold(t, "Minus the first ones", Minus(all, all[:900]), all[900:2900])
}

// P4.1: Within keeps l's order, and what stands there twice.
func TestWithin(t *testing.T) {
	v := api.Vec{2, 0, 5, 0, 0, 0, 0, math.MaxUint64}
	l := []vec.Dot{dot(3, 5), dot(1, 3), dot(1, 2), dot(0, 0), dot(3, 5), dot(2, 1), dot(8, math.MaxUint64), dot(3, 6), dot(1, 0), dot(1, 1), dot(9, 1)}
	hold(t, "Within", Within(l, v), []vec.Dot{dot(3, 5), dot(1, 2), dot(3, 5), dot(8, math.MaxUint64), dot(1, 1)})
	hold(t, "within noughts", Within(l, api.Vec{}), nil)
	hold(t, "of none", Within(nil, v), nil)
	hold(t, "more than 2000", Within(run(1, 1, 3000), api.Vec{2500}), run(1, 1, 2500))
}

// P4.1: Span is the join of noughts with each dot.
func TestSpan(t *testing.T) {
	for _, c := range []struct {
		l    []vec.Dot
		want api.Vec
	}{
		{nil, api.Vec{}},
		{[]vec.Dot{dot(2, 3)}, api.Vec{0, 3}},
		{[]vec.Dot{dot(2, 3), dot(1, 7), dot(2, 1), dot(8, math.MaxUint64)}, api.Vec{7, 3, 0, 0, 0, 0, 0, math.MaxUint64}},
		{wrongDots(), api.Vec{}},
		{append(wrongDots(), dot(5, 5), dot(5, 4)), api.Vec{0, 0, 0, 0, 5}},
		{run(4, 1, 3000), api.Vec{0, 0, 0, 3000}},
	} {
		if got := Span(c.l); got != c.want {
			t.Errorf("Span of %v: %v, want %v", first(c.l), got, c.want)
		}
	}
}

// P4.1: a whole set has each node's dots from 1 on.
func TestWhole(t *testing.T) {
	for _, l := range [][]vec.Dot{
		nil,
		{},
		{dot(1, 1)},
		{dot(8, 1), dot(8, 2)},
		{dot(1, 1), dot(1, 2), dot(3, 1), dot(3, 2), dot(3, 3), dot(4, 1)},
		run(2, 1, 2000),
	} {
		if !Whole(l) {
			t.Errorf("%v is not whole", first(l))
		}
	}
	for _, l := range [][]vec.Dot{
		{dot(1, 2)},
		{dot(1, 1), dot(1, 3)},
		{dot(1, 1), dot(2, 2)},
		{dot(1, 1), dot(1, 2), dot(3, 1), dot(3, 3)},
		{dot(1, 2), dot(1, 1)},
		{dot(2, 1), dot(1, 1)},
		{dot(1, 1), dot(1, 1)},
		{dot(1, math.MaxUint64)},
		{dot(0, 1)},
		{dot(1, 1), dot(9, 1)},
		{dot(1, 0), dot(1, 1)},
		{{}},
		run(2, 1, 2001),
		run(2, 2, 5),
	} {
		if Whole(l) {
			t.Errorf("%v is whole", first(l))
		}
	}
}

// P4.1: the same dots in the same order, in whatever list.
func TestSame(t *testing.T) {
	l := []vec.Dot{dot(1, 1), dot(2, 2), dot(2, 2), dot(0, 0)}
	if !Same(l, slices.Clone(l)) || !Same(nil, nil) || !Same(nil, []vec.Dot{}) || !Same([]vec.Dot{}, nil) {
		t.Errorf("what is the same is not")
	}
	long := append(slices.Clone(l), dot(9, 9))
	if !Same(long[:4], l) {
		t.Errorf("what stands behind a list counts")
	}
	for _, other := range [][]vec.Dot{
		nil, l[:3], long, backward(l),
		{dot(1, 1), dot(2, 2), dot(2, 2), dot(0, 1)},
		{dot(1, 1), dot(2, 2), dot(3, 2), dot(0, 0)},
	} {
		if Same(l, other) || Same(other, l) {
			t.Errorf("%v is the same as %v", l, other)
		}
	}
}

// P4.3: of a Join, Meet, Minus a dot is in it just if it is as they say; each is a set.
func TestSetsAreSets(t *testing.T) {
	x := uint32(11)
	next := func(n uint32) uint32 { x = x*1664525 + 1013904223; return x >> 16 % n }
	list := func() []vec.Dot {
		var l []vec.Dot
		for range next(14) {
			l = append(l, dot(int(next(5)), uint64(next(4))))
		}
		return l
	}
	for range 3000 {
		a, b := list(), list()
		join, meet, minus := Join(a, b), Meet(a, b), Minus(a, b)
		if !Right(join) || !Right(meet) || !Right(minus) || !Right(Of(a...)) {
			t.Fatalf("%v and %v: %v, %v, %v", a, b, join, meet, minus)
		}
		for node := range 5 {
			for n := range uint64(4) {
				d := dot(node, n)
				inA, inB := vec.Right(d) && slices.Contains(a, d), vec.Right(d) && slices.Contains(b, d)
				if Has(join, d) != (inA || inB) || Has(meet, d) != (inA && inB) || Has(minus, d) != (inA && !inB) || Has(Of(a...), d) != inA {
					t.Fatalf("%v of %v and %v: %v, %v, %v", d, a, b, join, meet, minus)
				}
				if vec.Has(Span(a), d) != slices.ContainsFunc(a, func(e vec.Dot) bool { return vec.Right(e) && e.Node == node && n >= 1 && e.N >= n }) {
					t.Fatalf("%v of %v: Span %v", d, a, Span(a))
				}
			}
		}
		if !Same(Join(minus, meet), Of(a...)) || !Same(join, Join(b, a)) || !Same(meet, Meet(b, a)) {
			t.Fatalf("%v and %v do not go together: %v, %v, %v", a, b, join, meet, minus)
		}
	}
}

// P4.3: a whole set is just what its Span covers.
func TestWholeIsItsSpan(t *testing.T) {
	x := uint32(3)
	wholes := 0
	for range 20000 {
		var l []vec.Dot
		for node := 1; node <= 3; node++ {
			for n := uint64(1); n <= 3; n++ {
				x = x*1664525 + 1013904223
				if x>>28 < 12 {
					l = append(l, dot(node, n))
				}
			}
		}
		var covered []vec.Dot
		for node := 1; node <= api.MaxNodes; node++ {
			covered = append(covered, run(node, 1, int(vec.Get(Span(l), node)))...)
		}
		if Whole(l) != Same(l, covered) {
			t.Fatalf("%v: whole %v, its Span covers %v", l, Whole(l), covered)
		}
		if Whole(l) {
			wholes++
		}
	}
	if wholes < 100 {
		t.Fatalf("just %d whole sets", wholes)
	}
}

// The whole's rules 4 and 5: lists are neither changed nor kept, and what is handed out is new memory.
func TestMemory(t *testing.T) {
	room := []vec.Dot{dot(2, 2), dot(1, 1), dot(0, 5), dot(2, 2), dot(7, 7), dot(7, 8)}
	was := slices.Clone(room)
	a, b := room[:4], []vec.Dot{dot(3, 3), dot(2, 2), dot(1, 9)}
	wasB := slices.Clone(b)
	v := api.Vec{9, 9, 9}
	for name, call := range map[string]func() []vec.Dot{
		"Of":     func() []vec.Dot { return Of(a...) },
		"Join":   func() []vec.Dot { return Join(a, b) },
		"Meet":   func() []vec.Dot { return Meet(a, b) },
		"Minus":  func() []vec.Dot { return Minus(a, b) },
		"Within": func() []vec.Dot { return Within(a, v) },
	} {
		got := call()
		want := slices.Clone(got)
		if len(got) == 0 || cap(got) != len(got) {
			t.Errorf("%s: %v with room for %d", name, got, cap(got))
		}
		for i := range got {
			got[i] = dot(6, 66)
		}
		if !slices.Equal(room, was) || !slices.Equal(b, wasB) {
			t.Fatalf("%s has changed what was handed in, or shares it: %v, %v", name, room, b)
		}
		hold(t, name+", again", call(), want)
	}
	one := []vec.Dot{dot(1, 1), dot(2, 2)}
	for name, got := range map[string][]vec.Dot{"Of": Of(one...), "Join": Join(one, nil), "Meet": Meet(one, one), "Minus": Minus(one, nil), "Within": Within(one, v)} {
		one[0] = dot(5, 5)
		hold(t, name+" of a set", got, []vec.Dot{dot(1, 1), dot(2, 2)})
		one[0] = dot(1, 1)
	}
}

// What yields dots stops when it is told to.
func TestYieldStops(t *testing.T) {
	l := []vec.Dot{dot(1, 1), dot(0, 0), dot(1, 2), dot(1, 3)}
	for name, yielded := range map[string]func(func(vec.Dot) bool){"right": right(l, l), "picked": picked(l, nil, false)} {
		var got []vec.Dot
		for d := range yielded {
			if got = append(got, d); len(got) == 2 {
				break
			}
		}
		hold(t, name, got, []vec.Dot{dot(1, 1), dot(1, 2)})
	}
}
