package cart

import (
	"math"
	"slices"
	"testing"

	"maund/api"
	"maund/vec"
)

// P6.1: carts that may be, up to each edge.
func TestRight(t *testing.T) {
	for name, c := range map[string]Cart{
		"nothing":                    {},
		"no entries, a context":      {Ctx: full, L: []Entry{}},
		"a usual one":                usual(),
		"the least of each":          {Ctx: api.Vec{1}, L: []Entry{entry(1, 1, 1, -1000)}},
		"the greatest of each":       {Ctx: full, L: []Entry{entry(60, 8, math.MaxUint64, 1000)}},
		"a quantity of 0":            {Ctx: api.Vec{1}, L: []Entry{entry(1, 1, 1, 0)}},
		"the same N of two nodes":    {Ctx: api.Vec{1, 1}, L: []Entry{entry(1, 1, 1, 1), entry(1, 2, 1, 1)}},
		"a later item, a lesser dot": {Ctx: full, L: []Entry{entry(1, 8, 8, 1), entry(2, 1, 1, 1)}},
		"400 entries":                {Ctx: full, L: many(9, 400)},
	} {
		if !Right(c) {
			t.Errorf("%s may not be: %v", name, c)
		}
	}
}

// P6.1: an entry that may not be, or that the context does not cover.
func TestRightEntry(t *testing.T) {
	for _, e := range []Entry{
		{}, entry(0, 1, 1, 1), entry(-1, 1, 1, 1), entry(61, 1, 1, 1), entry(math.MaxInt, 1, 1, 1), entry(math.MinInt, 1, 1, 1),
		entry(1, 0, 1, 1), entry(1, 9, 1, 1), entry(1, -1, 1, 1), entry(1, math.MaxInt, 1, 1), entry(1, math.MinInt, 1, 1), entry(1, 1<<32+1, 1, 1),
		entry(1, 1, 0, 1), entry(1, 8, 0, 1),
		entry(1, 1, 1, 1001), entry(1, 1, 1, -1001), entry(1, 1, 1, math.MaxInt), entry(1, 1, 1, math.MinInt),
	} {
		if c := (Cart{Ctx: full, L: []Entry{e}}); Right(c) {
			t.Errorf("%v may be", c)
		}
	}
	for node := 1; node <= api.MaxNodes; node++ {
		var ctx api.Vec
		ctx[node-1] = 4
		for n := uint64(1); n <= 6; n++ {
			if c := (Cart{Ctx: ctx, L: []Entry{entry(3, node, n, 1)}}); Right(c) != (n <= 4) {
				t.Errorf("%v: %v", c, Right(c))
			}
		}
	}
	good := usual()
	for i := range good.L {
		c := Cart{Ctx: good.Ctx, L: slices.Clone(good.L)}
		c.L[i].Qty = 1001
		if Right(c) {
			t.Errorf("%v may be", c)
		}
	}
}

// P6.1: too many entries, a dot that stands in two, or entries not in order.
func TestRightEntries(t *testing.T) {
	for name, l := range map[string][]Entry{
		"401 entries":                      many(9, 401),
		"2001 entries":                     many(9, 2001),
		"400 entries, and a later one":     append(many(9, 400), entry(10, 4, 1, 1)),
		"one twice":                        {entry(5, 1, 1, 2), entry(5, 1, 1, 2)},
		"a dot twice in an item":           {entry(5, 1, 1, 2), entry(5, 1, 1, 3)},
		"a dot in two items":               {entry(5, 1, 1, 2), entry(6, 1, 1, 2)},
		"a dot in two items, far apart":    {entry(5, 1, 1, 2), entry(5, 2, 1, 2), entry(6, 1, 2, 2), entry(9, 1, 1, 2)},
		"items not in order":               {entry(6, 1, 1, 2), entry(5, 1, 2, 2)},
		"nodes not in order":               {entry(5, 2, 1, 2), entry(5, 1, 2, 2)},
		"events not in order":              {entry(5, 1, 2, 2), entry(5, 1, 1, 2)},
		"the last ones not in order":       {entry(1, 1, 1, 2), entry(5, 1, 3, 2), entry(5, 1, 2, 2)},
		"by dots alone, not by items":      {entry(6, 1, 1, 2), entry(5, 2, 1, 2)},
		"what may not be, behind what may": {entry(5, 1, 1, 2), entry(0, 0, 0, 0)},
	} {
		if c := (Cart{Ctx: full, L: l}); Right(c) {
			t.Errorf("%s may be: %v", name, c)
		}
	}
	if Right(rough()) {
		t.Errorf("%v may be", rough())
	}
	room := many(9, 401)
	if !Right(Cart{Ctx: full, L: room[:400]}) {
		t.Errorf("an entry behind the list counts")
	}
}

// P6.1: equal contexts, and equal entries in the same order.
func TestSame(t *testing.T) {
	a := usual()
	for _, c := range []Cart{a, rough(), {}, {Ctx: full}} {
		if !Same(c, Cart{Ctx: c.Ctx, L: slices.Clone(c.L)}) {
			t.Errorf("%v is not the same as itself", c)
		}
	}
	if !Same(Cart{}, Cart{L: []Entry{}}) || !Same(Cart{L: []Entry{}}, Cart{}) {
		t.Errorf("no entries are not the same as none")
	}
	if long := append(slices.Clone(a.L), entry(60, 8, 1, 1)); !Same(a, Cart{Ctx: a.Ctx, L: long[:len(a.L)]}) {
		t.Errorf("what stands behind a list counts")
	}
	others := []Cart{
		{}, {Ctx: a.Ctx}, {L: a.L}, {Ctx: full, L: a.L},
		{Ctx: a.Ctx, L: a.L[:5]}, {Ctx: a.Ctx, L: a.L[1:]}, {Ctx: a.Ctx, L: backward(a.L)},
		{Ctx: a.Ctx, L: append(slices.Clone(a.L), entry(60, 2, 3, 0))},
	}
	for i := range a.Ctx {
		c := Cart{Ctx: a.Ctx, L: a.L}
		c.Ctx[i]++
		others = append(others, c)
	}
	for i := range a.L {
		for _, more := range []Entry{entry(1, 0, 0, 0), entry(0, 1, 0, 0), entry(0, 0, 1, 0), entry(0, 0, 0, 1)} {
			l := slices.Clone(a.L)
			l[i] = entry(l[i].Item+more.Item, l[i].Node+more.Node, l[i].N+more.N, l[i].Qty+more.Qty)
			others = append(others, Cart{Ctx: a.Ctx, L: l})
		}
	}
	for _, other := range others {
		if Same(a, other) || Same(other, a) {
			t.Errorf("%v is the same as %v", a, other)
		}
	}
}

// P6.2: a dot is off that the context covers, and no entry has.
func TestIsOff(t *testing.T) {
	for _, c := range []struct {
		d    vec.Dot
		want bool
	}{
		{vec.Dot{Node: 1, N: 1}, false}, {vec.Dot{Node: 1, N: 2}, false}, {vec.Dot{Node: 1, N: 3}, true}, {vec.Dot{Node: 1, N: 4}, false},
		{vec.Dot{Node: 1, N: 5}, true}, {vec.Dot{Node: 1, N: 6}, false}, {vec.Dot{Node: 1, N: math.MaxUint64}, false},
		{vec.Dot{Node: 2, N: 1}, false}, {vec.Dot{Node: 2, N: 2}, true}, {vec.Dot{Node: 2, N: 4}, false},
		{vec.Dot{Node: 3, N: 1}, false}, {vec.Dot{Node: 8, N: 8}, true}, {vec.Dot{Node: 8, N: 9}, false}, {vec.Dot{Node: 8, N: 10}, false},
		{vec.Dot{}, false}, {vec.Dot{Node: 1}, false}, {vec.Dot{N: 1}, false}, {vec.Dot{Node: 9, N: 1}, false}, {vec.Dot{Node: -1, N: 1}, false},
		{vec.Dot{Node: math.MaxInt, N: 1}, false}, {vec.Dot{Node: math.MinInt, N: 1}, false},
	} {
		if got := IsOff(usual(), c.d); got != c.want {
			t.Errorf("IsOff of %v: %v", c.d, got)
		}
	}
	for _, c := range []struct {
		d    vec.Dot
		want bool
	}{
		{vec.Dot{Node: 1, N: 1}, false}, {vec.Dot{Node: 1, N: 2}, false}, {vec.Dot{Node: 1, N: 3}, true}, {vec.Dot{Node: 2, N: 3}, false},
		{vec.Dot{Node: 2, N: 1}, true}, {vec.Dot{Node: 1, N: 9}, false}, {vec.Dot{Node: 1, N: 8}, false}, {vec.Dot{}, false},
		{vec.Dot{Node: 9, N: 9}, false}, {vec.Dot{Node: 9, N: 8}, false}, {vec.Dot{Node: -1, N: 6}, false},
	} {
		if got := IsOff(rough(), c.d); got != c.want {
			t.Errorf("IsOff of %v, of a cart that may not be: %v", c.d, got)
		}
	}
	if !IsOff(Cart{Ctx: full}, vec.Dot{Node: 8, N: math.MaxUint64}) || IsOff(Cart{}, vec.Dot{Node: 1, N: 1}) {
		t.Errorf("IsOff of carts without entries")
	}
}

// P6.3: of a cart that may be each dot that the context covers is live, or off, not both; no other one is either.
func TestLiveOrOff(t *testing.T) {
	draw := draws(4)
	for range 3000 {
		c := drawn(draw)
		if !Right(c) {
			t.Fatalf("%v may not be", c)
		}
		live := Live(c)
		for node := range 5 {
			for n := range uint64(6) {
				d := vec.Dot{Node: node, N: n}
				isLive, isOff := slices.Contains(live, d), IsOff(c, d)
				if isLive && isOff || (isLive || isOff) != vec.Has(c.Ctx, d) {
					t.Fatalf("%v of %v: live %v, off %v", d, c, isLive, isOff)
				}
			}
		}
	}
}

// The whole's P1 and its rules 4 and 5: carts are neither changed nor kept, and what is handed out is new memory.
func TestMemory(t *testing.T) {
	for name, c := range map[string]Cart{"usual": usual(), "rough": rough()} {
		was := slices.Clone(c.L)
		room := append(slices.Clone(c.L), entry(7, 4, 4, 4))
		c.L = room[:len(was)]
		of, live, value, ordered := Of(c, 7), Live(c), Value(c), Order(c.L)
		Right(c)
		Same(c, c)
		Get(c, 7)
		IsOff(c, vec.Dot{Node: 1, N: 3})
		if cap(ordered) != len(ordered) {
			t.Errorf("%s: Order has room for %d", name, cap(ordered))
		}
		for i := range of {
			of[i] = Entry{}
		}
		for i := range ordered {
			ordered[i] = Entry{}
		}
		if !slices.Equal(c.L, was) || room[len(was)] != entry(7, 4, 4, 4) {
			t.Fatalf("%s: a cart was changed, or is shared: %v", name, room)
		}
		for i := range c.L {
			c.L[i] = Entry{}
		}
		as := Cart{Ctx: c.Ctx, L: was}
		sameDots(t, name, live, Live(as))
		sameLines(t, name, value, Value(as))
	}
}
