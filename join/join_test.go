package join

import (
	"math"
	"slices"
	"testing"

	"maund/api"
	"maund/cart"
	"maund/edit"
	"maund/vec"
)

// P8.1: two carts clash by entries of one dot that are not equal, whatever carts they are.
func TestClash(t *testing.T) {
	for name, c := range map[string]struct {
		a, b []cart.Entry
		want bool
	}{
		"nothing":                                {nil, nil, false},
		"nothing and something":                  {nil, []cart.Entry{entry(5, 1, 1, 2)}, false},
		"equal ones":                             {[]cart.Entry{entry(5, 1, 1, 2)}, []cart.Entry{entry(5, 1, 1, 2)}, false},
		"another quantity":                       {[]cart.Entry{entry(5, 1, 1, 2)}, []cart.Entry{entry(5, 1, 1, 3)}, true},
		"another item":                           {[]cart.Entry{entry(5, 1, 1, 2)}, []cart.Entry{entry(6, 1, 1, 2)}, true},
		"another node":                           {[]cart.Entry{entry(5, 1, 1, 2)}, []cart.Entry{entry(5, 2, 1, 3)}, false},
		"another event":                          {[]cart.Entry{entry(5, 1, 1, 2)}, []cart.Entry{entry(5, 1, 2, 3)}, false},
		"Node and N the other way round":         {[]cart.Entry{entry(5, 1, 2, 2)}, []cart.Entry{entry(5, 2, 1, 3)}, false},
		"the first and the last one":             {[]cart.Entry{entry(5, 1, 1, 2), entry(6, 2, 1, 2)}, []cart.Entry{entry(4, 3, 1, 2), entry(7, 1, 1, 2)}, true},
		"one of more":                            {[]cart.Entry{entry(5, 1, 1, 2), entry(6, 2, 1, 2)}, []cart.Entry{entry(5, 1, 1, 2), entry(6, 2, 1, 3)}, true},
		"a dot that may not be, equal":           {[]cart.Entry{entry(5, 0, 0, 2)}, []cart.Entry{entry(5, 0, 0, 2)}, false},
		"a dot of no node":                       {[]cart.Entry{entry(5, 0, 1, 2)}, []cart.Entry{entry(5, 0, 1, 3)}, true},
		"a dot of a node above all":              {[]cart.Entry{entry(5, 9, 1, 2)}, []cart.Entry{entry(6, 9, 1, 2)}, true},
		"a dot of a node below 0":                {[]cart.Entry{entry(5, math.MinInt, 1, 2)}, []cart.Entry{entry(6, math.MinInt, 1, 2)}, true},
		"no event":                               {[]cart.Entry{entry(5, 1, 0, 2)}, []cart.Entry{entry(5, 1, 0, 3)}, true},
		"nodes that are near to each other":      {[]cart.Entry{entry(5, 1, 1, 2)}, []cart.Entry{entry(6, 1<<32+1, 1, 2), entry(6, 257, 1, 2), entry(6, -1, 1, 2)}, false},
		"the greatest event":                     {[]cart.Entry{entry(5, 1, math.MaxUint64, 2)}, []cart.Entry{entry(5, 1, math.MaxUint64, 1)}, true},
		"unlike ones in one cart alone":          {[]cart.Entry{entry(5, 1, 1, 2), entry(5, 1, 1, 3)}, []cart.Entry{entry(5, 1, 2, 2)}, false},
		"unlike ones in one, one in the other":   {[]cart.Entry{entry(5, 1, 1, 2), entry(5, 1, 1, 3)}, []cart.Entry{entry(5, 1, 1, 2)}, true},
		"unlike ones in one, the last one there": {[]cart.Entry{entry(5, 1, 1, 2), entry(5, 1, 1, 3)}, []cart.Entry{entry(5, 1, 1, 3)}, true},
		"equal ones twice":                       {[]cart.Entry{entry(5, 1, 1, 2), entry(5, 1, 1, 2)}, []cart.Entry{entry(5, 1, 1, 2), entry(5, 1, 1, 2)}, false},
		"items and quantities that may not be":   {[]cart.Entry{entry(-5, 1, 1, 5000)}, []cart.Entry{entry(-5, 1, 1, 5001)}, true},
	} {
		for _, ctx := range []api.Vec{{}, full} {
			a, b := of(ctx, c.a...), of(api.Vec{7}, c.b...)
			if Clash(a, b) != c.want || Clash(b, a) != c.want {
				t.Errorf("%s: %v, the other way %v", name, Clash(a, b), Clash(b, a))
			}
		}
	}
	room := []cart.Entry{entry(5, 1, 1, 2), entry(5, 1, 2, 2)}
	if Clash(of(full, room[:1]...), of(full, entry(5, 1, 2, 3))) || Clash(cart.Cart{L: room[:1]}, cart.Cart{L: []cart.Entry{entry(5, 1, 2, 3)}}) {
		t.Errorf("what stands behind a list counts")
	}
}

// P8.1: of any carts, told by each entry against each; and of long ones.
func TestClashOfAny(t *testing.T) {
	draw := draws(8)
	clashes := 0
	for range 20000 {
		a, b := drawnAny(draw), drawnAny(draw)
		want := slices.ContainsFunc(a.L, func(x cart.Entry) bool {
			return slices.ContainsFunc(b.L, func(y cart.Entry) bool { return x.Node == y.Node && x.N == y.N && x != y })
		})
		if want {
			clashes++
		}
		if Clash(a, b) != want {
			t.Fatalf("Clash of %v and %v: %v", a, b, !want)
		}
	}
	if clashes < 1000 || clashes > 19000 {
		t.Errorf("%d of 20000 clash", clashes)
	}
	long, other := run(9, 3, 1, 200000), run(9, 3, 1, 200000)
	if Clash(long, other) {
		t.Errorf("long ones that are equal clash")
	}
	other.L[199999].Qty++
	if !Clash(long, other) {
		t.Errorf("long ones do not clash")
	}
}

// P8.1: the join, by the document's example and each way in which an entry stays, or does not.
func TestTwo(t *testing.T) {
	a, b := entry(5, 1, 1, 2), entry(7, 2, 3, -3)
	joins(t, "nothing", cart.Cart{}, of(api.Vec{}), cart.Cart{})
	joins(t, "with nothing", cart.Cart{}, of(api.Vec{1, 3}, a, b), of(api.Vec{1, 3}, a, b))
	joins(t, "with itself", of(api.Vec{1, 3}, a, b), of(api.Vec{1, 3}, a, b), of(api.Vec{1, 3}, a, b))
	joins(t, "live in one, off in the other", of(api.Vec{1}, a), of(api.Vec{1}), of(api.Vec{1}))
	joins(t, "live in one, off in the other, that knows more", of(api.Vec{1}, a), of(api.Vec{4, 0, 2}), of(api.Vec{4, 0, 2}))
	joins(t, "live in one, not heard of in the other", of(api.Vec{1}, a), of(api.Vec{0, 3}, b), of(api.Vec{1, 3}, a, b))
	joins(t, "live in one, a dot of the same node heard of", of(api.Vec{0, 3}, b), of(api.Vec{0, 2}), of(api.Vec{0, 3}, b))
	joins(t, "live in both", of(api.Vec{1, 3}, a, b), of(api.Vec{1, 0, 4}, a, entry(6, 3, 4, 1)), of(api.Vec{1, 3, 4}, a, entry(6, 3, 4, 1), b))
	joins(t, "off in both", of(api.Vec{1, 3}, b), of(api.Vec{2, 3}, b), of(api.Vec{2, 3}, b))
	joins(t, "off crosswise", of(api.Vec{1, 3}, a), of(api.Vec{1, 3}, b), of(api.Vec{1, 3}))
	joins(t, "contexts alone", of(api.Vec{1, 0, 2}), of(api.Vec{0, 3}), of(api.Vec{1, 3, 2}))
	joins(t, "entries of one item, in order by dots", of(api.Vec{2, 0, 1}, entry(5, 1, 2, 1), entry(5, 3, 1, 1)), of(api.Vec{1, 1, 0, 1}, entry(5, 1, 1, 1), entry(5, 2, 1, 1), entry(5, 4, 1, 1)),
		of(api.Vec{2, 1, 1, 1}, entry(5, 1, 2, 1), entry(5, 2, 1, 1), entry(5, 3, 1, 1), entry(5, 4, 1, 1)))
	joins(t, "the greatest events", of(full, entry(60, 8, math.MaxUint64, 1000)), of(api.Vec{}), of(full, entry(60, 8, math.MaxUint64, 1000)))
}

// P8.1: ErrForm ahead of ErrClash ahead of ErrFull; the same of All.
func TestErrors(t *testing.T) {
	one := of(api.Vec{1}, entry(5, 1, 1, 2))
	for _, wrong := range wrongCarts() {
		for _, c := range []cart.Cart{{}, one, wrong, of(full, entry(1, 1, 1, 5)), run(8, 4, 1, 400)} {
			refuses(t, "one that may not be", api.ErrForm, wrong, c)
		}
	}
	refuses(t, "another quantity", api.ErrClash, one, of(api.Vec{1}, entry(5, 1, 1, 3)))
	refuses(t, "another item", api.ErrClash, one, of(api.Vec{1, 1}, entry(4, 2, 1, 2), entry(6, 1, 1, 2)))
	refuses(t, "one too many", api.ErrFull, run(9, 3, 1, 400), run(9, 4, 1, 1))
	refuses(t, "one too many, half of each", api.ErrFull, run(9, 3, 1, 200), run(8, 4, 1, 201))
	refuses(t, "as many as there can be", api.ErrFull, run(9, 3, 1, 400), run(9, 4, 1, 400))
	clash := run(8, 4, 1, 400)
	clash.L[0] = entry(7, 3, 400, 1)
	clash.Ctx[2] = 400
	refuses(t, "too many, and a clash", api.ErrClash, run(9, 3, 1, 400), clash)
}

// P8.1: MaxJoined entries are as many as there may be; those that are in both count once, those that go off do not count.
func TestTwoMost(t *testing.T) {
	for _, c := range []struct {
		name string
		a, b cart.Cart
		want int
	}{
		{"half of each", run(9, 3, 1, 200), run(8, 4, 1, 200), 400},
		{"all of one", run(9, 3, 1, 400), of(api.Vec{1, 1}), 400},
		{"all of both", run(9, 3, 1, 400), run(9, 3, 1, 400), 400},
		{"most of both", run(9, 3, 1, 399), run(9, 3, 1, 400), 400},
		{"all but one go off", run(9, 3, 1, 400), of(api.Vec{0, 0, 399, 1}, entry(9, 4, 1, 1)), 2},
	} {
		got, e := Two(c.a, c.b)
		if e != api.OK || len(got.L) != c.want || !cart.Right(got) {
			t.Errorf("%s: %d entries, %v", c.name, len(got.L), e)
		}
	}
	a, b := run(9, 3, 1, 400), run(8, 4, 1, 400)
	a.Ctx[3], b.Ctx[2] = 300, 100
	got, e := Two(a, b)
	if e != api.OK || len(got.L) != 400 || got.Ctx != (api.Vec{0, 0, 400, 400}) {
		t.Errorf("what goes off makes room: %d entries, %v", len(got.L), e)
	}
}

// P8.1: All of none, of one, and of more; the first error.
func TestAll(t *testing.T) {
	a, b, c := of(api.Vec{2}, entry(5, 1, 1, 2), entry(6, 1, 2, 2)), of(api.Vec{1, 1}, entry(7, 2, 1, 1)), of(api.Vec{0, 1, 1}, entry(8, 3, 1, 1))
	for _, x := range []struct {
		name string
		l    []cart.Cart
		want cart.Cart
	}{
		{"none", nil, cart.Cart{}},
		{"an empty list", []cart.Cart{}, cart.Cart{}},
		{"one of nothing", []cart.Cart{{}}, cart.Cart{}},
		{"one", []cart.Cart{a}, a},
		{"one of many entries", []cart.Cart{run(9, 3, 1, 400)}, run(9, 3, 1, 400)},
		{"two", []cart.Cart{a, b}, of(api.Vec{2, 1}, entry(6, 1, 2, 2), entry(7, 2, 1, 1))},
		{"three", []cart.Cart{a, b, c}, of(api.Vec{2, 1, 1}, entry(6, 1, 2, 2), entry(8, 3, 1, 1))},
		{"three, another order", []cart.Cart{c, a, b}, of(api.Vec{2, 1, 1}, entry(6, 1, 2, 2), entry(8, 3, 1, 1))},
		{"the same often", []cart.Cart{a, a, cart.Cart{}, a}, a},
	} {
		got, e := All(x.l...)
		sameCart(t, x.name, got, x.want)
		if e != api.OK {
			t.Errorf("%s: %v", x.name, e)
		}
	}
	unlike := of(api.Vec{2}, entry(5, 1, 1, 3))
	for _, wrong := range wrongCarts() {
		refuses(t, "one that may not be", api.ErrForm, wrong)
		refuses(t, "the first one may not be", api.ErrForm, wrong, a, unlike)
		refuses(t, "the last one may not be", api.ErrForm, a, b, wrong)
		refuses(t, "a clash ahead of what may not be", api.ErrClash, a, unlike, wrong)
		refuses(t, "what may not be ahead of a clash", api.ErrForm, a, wrong, unlike)
		refuses(t, "too many ahead of what may not be", api.ErrFull, run(9, 3, 1, 400), run(9, 4, 1, 1), wrong)
	}
	refuses(t, "too many of three", api.ErrFull, run(9, 3, 1, 200), run(9, 4, 1, 200), run(9, 5, 1, 1))
	refuses(t, "too many, though the last one lets them go", api.ErrFull, run(9, 3, 1, 400), run(9, 4, 1, 1), of(full))
	if got, e := All(run(9, 3, 1, 400), of(api.Vec{0, 0, 400}), run(9, 4, 1, 400)); e != api.OK || len(got.L) != 400 {
		t.Errorf("off ahead of what would be too many: %d entries, %v", len(got.L), e)
	}
	if got, e := All(a, of(api.Vec{2}), unlike); e != api.OK || len(got.L) != 0 {
		t.Errorf("what clashed is off: %v, %v", got, e)
	}
	room := []cart.Cart{a, b, wrongCarts()[0]}
	if got, e := All(room[:2]...); e != api.OK || len(got.L) != 2 {
		t.Errorf("All has read behind its list: %v, %v", got, e)
	}
}

// P8.2: Covers and Order, of carts that stand to each other in all ways.
func TestOrder(t *testing.T) {
	a, b := entry(5, 1, 1, 2), entry(7, 2, 3, -3)
	for _, c := range []struct {
		name string
		x, y cart.Cart
		want int
	}{
		{"nothing", cart.Cart{}, of(api.Vec{}), 0},
		{"one and itself", of(api.Vec{1, 3}, a, b), of(api.Vec{1, 3}, a, b), 0},
		{"one and nothing", of(api.Vec{1}, a), cart.Cart{}, 1},
		{"one with an entry more", of(api.Vec{1, 3}, a, b), of(api.Vec{1}, a), 1},
		{"one with an entry off", of(api.Vec{1}), of(api.Vec{1}, a), 1},
		{"one with a greater context", of(api.Vec{2}, a), of(api.Vec{1}, a), 1},
		{"a lesser context, an entry off", of(api.Vec{1}), of(api.Vec{2}, a), 2},
		{"side by side", of(api.Vec{1}, a), of(api.Vec{0, 3}, b), 2},
		{"off crosswise", of(api.Vec{1, 3}, a), of(api.Vec{1, 3}, b), 2},
		{"another quantity", of(api.Vec{1}, a), of(api.Vec{1}, entry(5, 1, 1, 3)), 2},
		{"a greater context, another quantity", of(api.Vec{2}, a), of(api.Vec{1}, entry(5, 1, 1, 3)), 2},
		{"most of one, and most of another one", run(9, 3, 1, 400), run(9, 4, 1, 400), 2},
		{"most of one, and fewer", run(9, 3, 1, 400), run(9, 3, 1, 399), 1},
	} {
		back := map[int]int{0: 0, 1: -1, 2: 2}[c.want]
		if got := Order(c.x, c.y); got != c.want || Order(c.y, c.x) != back {
			t.Errorf("%s: Order %d, the other way %d", c.name, got, Order(c.y, c.x))
		}
		if over, under := Covers(c.x, c.y), Covers(c.y, c.x); over != (c.want == 0 || c.want == 1) || under != (c.want == 0) {
			t.Errorf("%s: Covers %v, the other way %v", c.name, over, under)
		}
	}
	for _, wrong := range wrongCarts() {
		for _, c := range []cart.Cart{{}, of(full), wrong} {
			if Covers(wrong, c) || Covers(c, wrong) || Order(wrong, c) != 2 || Order(c, wrong) != 2 {
				t.Errorf("%v, that may not be, and %v: one covers the other", wrong, c)
			}
		}
	}
}

// P8.3: carts are a lattice: the join covers both, and is the least that does; in any order, however often, however put together.
func TestLattice(t *testing.T) {
	draw := draws(21)
	for range 6000 {
		a, b, c := drawn(draw), drawn(draw), drawn(draw)
		ab, e := Two(a, b)
		if e != api.OK || !cart.Right(ab) {
			t.Fatalf("%v and %v: %v, %v", a, b, ab, e)
		}
		if !Covers(ab, a) || !Covers(ab, b) || Order(ab, a) < 0 || Order(ab, a) > 1 {
			t.Fatalf("%v does not cover %v and %v", ab, a, b)
		}
		if Covers(c, a) && Covers(c, b) && !Covers(c, ab) {
			t.Fatalf("%v covers %v and %v, but not %v", c, a, b, ab)
		}
		if Covers(a, b) && Covers(b, c) && !Covers(a, c) {
			t.Fatalf("%v covers %v, that covers %v, but not that", a, b, c)
		}
		joins(t, "with itself", ab, ab, ab)
		joins(t, "again with one of both", ab, b, ab)
		bc, _ := Two(b, c)
		want, _ := Two(ab, c)
		joins(t, "put together the other way", a, bc, want)
		for _, l := range [][]cart.Cart{{a, b, c}, {c, b, a}, {b, c, a, b, ab}, {bc, ab}, {c, a, c, b, c}} {
			got, e := All(l...)
			sameCart(t, "All", got, want)
			if e != api.OK {
				t.Fatalf("All of %v: %v", l, e)
			}
		}
		if over, under := Covers(a, b), Covers(b, a); over && under != cart.Same(a, b) {
			t.Fatalf("%v and %v cover each other: %v, %v", a, b, over, under)
		}
	}
}

// P8.4: a dot is off in the join just if it is off in one of both, live just if it is live in one, and off in none.
func TestObserved(t *testing.T) {
	draw := draws(14)
	for range 6000 {
		a, b := drawn(draw), drawn(draw)
		got, e := Two(a, b)
		if e != api.OK {
			t.Fatalf("%v and %v: %v", a, b, e)
		}
		for node := range 5 {
			for n := range uint64(6) {
				d := vec.Dot{Node: node, N: n}
				off := cart.IsOff(a, d) || cart.IsOff(b, d)
				live := !off && (slices.Contains(cart.Live(a), d) || slices.Contains(cart.Live(b), d))
				if cart.IsOff(got, d) != off || slices.Contains(cart.Live(got), d) != live {
					t.Fatalf("%v of %v and %v: off %v, live %v, joined %v", d, a, b, off, live, got)
				}
			}
		}
		for _, x := range got.L {
			if !slices.Contains(a.L, x) && !slices.Contains(b.L, x) {
				t.Fatalf("%v of %v is in neither %v nor %v", x, got, a, b)
			}
		}
		for i := range got.Ctx {
			if got.Ctx[i] != max(a.Ctx[i], b.Ctx[i]) {
				t.Fatalf("the context of %v, of %v and %v", got, a, b)
			}
		}
	}
}

// P8.3 and P8.4 of what was done: an add that a remove did not see stays, what it saw goes off, and replicas that heard of each other in any way are equal.
func TestReplicas(t *testing.T) {
	done := func(c cart.Cart, node int, o edit.Op) cart.Cart {
		next, _, e := edit.Do(c, node, o)
		if e != api.OK {
			t.Fatalf("%v by %d of %v: %v", o, node, c, e)
		}
		return next
	}
	first := done(cart.Cart{}, 1, edit.Op{Kind: 1, Item: 5, Qty: 2})
	removed := done(first, 1, edit.Op{Kind: 3, Item: 5})
	added := done(first, 2, edit.Op{Kind: 1, Item: 5, Qty: 4})
	joins(t, "an add beside a remove", removed, added, of(api.Vec{1, 1}, entry(5, 2, 1, 4)))
	two, three := done(first, 2, edit.Op{Kind: 2, Item: 5, Qty: 7}), done(first, 3, edit.Op{Kind: 2, Item: 5, Qty: 8})
	joins(t, "two sets beside each other", two, three, of(api.Vec{1, 1, 1}, entry(5, 2, 1, 7), entry(5, 3, 1, 8)))
	joins(t, "a set beside a clear", two, done(first, 3, edit.Op{Kind: 4}), of(api.Vec{1, 1}, entry(5, 2, 1, 7)))
	joins(t, "again, behind a remove", done(removed, 1, edit.Op{Kind: 1, Item: 5, Qty: 1}), first, of(api.Vec{2}, entry(5, 1, 2, 1)))

	draw := draws(5)
	for range 60 {
		var replicas [4]cart.Cart
		for range 60 {
			at := draw(4)
			if draw(3) == 0 {
				joined, e := Two(replicas[at], replicas[draw(4)])
				if e != api.OK || !Covers(joined, replicas[at]) {
					t.Fatalf("a join at %d: %v", at, e)
				}
				replicas[at] = joined
				continue
			}
			o := edit.Op{Kind: 1 + draw(2), Item: 1 + draw(3), Qty: 1 + draw(5)}
			if next, _, e := edit.Do(replicas[at], at+1, o); e == api.OK {
				replicas[at] = next
			}
		}
		all, e := All(replicas[:]...)
		slices.Reverse(replicas[:])
		back, eBack := All(replicas[:]...)
		sameCart(t, "all replicas, the other way", back, all)
		if e != api.OK || eBack != api.OK {
			t.Fatalf("all replicas: %v, %v", e, eBack)
		}
	}
}

// What yields entries stops when it is told to.
func TestYieldStops(t *testing.T) {
	a := of(api.Vec{1, 0, 1}, entry(5, 1, 1, 1), entry(6, 3, 1, 1))
	b := of(api.Vec{0, 2}, entry(5, 2, 1, 1), entry(6, 2, 2, 1))
	all := append(slices.Clone(a.L), b.L...)
	for most := 1; most <= len(all); most++ {
		var got []cart.Entry
		for e := range stays(a, b) {
			if got = append(got, e); len(got) == most {
				break
			}
		}
		if !slices.Equal(got, all[:most]) {
			t.Errorf("the first %d: %v", most, got)
		}
	}
}

// The whole's rules 4 and 5: carts are neither changed nor kept, and what is handed out is new memory.
func TestMemory(t *testing.T) {
	make2 := func() (cart.Cart, cart.Cart) {
		a := of(api.Vec{3, 1}, entry(5, 1, 1, 2), entry(7, 1, 3, 4))
		b := of(api.Vec{1, 3}, entry(4, 2, 3, 1), entry(5, 1, 1, 2))
		return a, b
	}
	calls := map[string]func(a, b cart.Cart) cart.Cart{
		"Two":               func(a, b cart.Cart) cart.Cart { c, _ := Two(a, b); return c },
		"Two with nothing":  func(a, b cart.Cart) cart.Cart { c, _ := Two(a, cart.Cart{}); return c },
		"Two from nothing":  func(a, b cart.Cart) cart.Cart { c, _ := Two(cart.Cart{}, b); return c },
		"Two of the same":   func(a, b cart.Cart) cart.Cart { c, _ := Two(a, a); return c },
		"All":               func(a, b cart.Cart) cart.Cart { c, _ := All(a, b); return c },
		"All of one":        func(a, b cart.Cart) cart.Cart { c, _ := All(a); return c },
		"All of one often":  func(a, b cart.Cart) cart.Cart { c, _ := All(b, b, b); return c },
		"what tells a bool": func(a, b cart.Cart) cart.Cart { Clash(a, b); Covers(a, b); Order(a, b); return cart.Cart{} },
	}
	for name, call := range calls {
		a, b := make2()
		roomA, roomB := append(a.L, entry(61, 9, 9, 9)), append(b.L, entry(61, 9, 9, 9))
		a.L, b.L = roomA[:2], roomB[:2]
		got := call(a, b)
		want := slices.Clone(got.L)
		wasA, wasB := make2()
		if !cart.Same(a, wasA) || !cart.Same(b, wasB) || roomA[2] != entry(61, 9, 9, 9) || roomB[2] != entry(61, 9, 9, 9) {
			t.Fatalf("%s has changed its carts: %v, %v", name, roomA, roomB)
		}
		for i := range got.L {
			got.L[i] = cart.Entry{}
		}
		if !cart.Same(a, wasA) || !cart.Same(b, wasB) {
			t.Fatalf("%s shares its carts: %v, %v", name, a, b)
		}
		again := call(a, b)
		if !slices.Equal(again.L, want) {
			t.Fatalf("%s, again: %v, want %v", name, again.L, want)
		}
		for i := range roomA {
			roomA[i], roomB[i] = cart.Entry{}, cart.Entry{}
		}
		if !slices.Equal(again.L, want) {
			t.Fatalf("%s keeps its carts: %v, want %v", name, again.L, want)
		}
	}
}
