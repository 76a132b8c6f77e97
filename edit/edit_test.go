package edit

import (
	"math"
	"slices"
	"testing"

	"maund/api"
	"maund/cart"
	"maund/vec"
)

// P7.1: what each kind of op does to a cart, and its event.
func TestDo(t *testing.T) {
	l := usual().L
	for _, c := range []struct {
		name string
		node int
		o    Op
		want cart.Cart
		done Event
	}{
		{"add of an item that is there, behind its entries", 8, add(5, 4),
			cart.Cart{Ctx: api.Vec{5, 3, 0, 0, 0, 0, 0, 10}, L: slices.Insert(slices.Clone(l), 2, entry(5, 8, 10, 4))},
			Event{Kind: 1, Item: 5, Qty: 4, Dot: dot(8, 10)}},
		{"add of an item that is there, between its entries", 1, add(5, -1000),
			cart.Cart{Ctx: api.Vec{6, 3, 0, 0, 0, 0, 0, 9}, L: slices.Insert(slices.Clone(l), 1, entry(5, 1, 6, -1000))},
			Event{Kind: 1, Item: 5, Qty: -1000, Dot: dot(1, 6)}},
		{"add of an item that is not there, ahead of all", 3, add(1, 1),
			cart.Cart{Ctx: api.Vec{5, 3, 1, 0, 0, 0, 0, 9}, L: slices.Insert(slices.Clone(l), 0, entry(1, 3, 1, 1))},
			Event{Kind: 1, Item: 1, Qty: 1, Dot: dot(3, 1)}},
		{"add of an item that is not there, between others", 2, add(6, 1000),
			cart.Cart{Ctx: api.Vec{5, 4, 0, 0, 0, 0, 0, 9}, L: slices.Insert(slices.Clone(l), 2, entry(6, 2, 4, 1000))},
			Event{Kind: 1, Item: 6, Qty: 1000, Dot: dot(2, 4)}},
		{"set of an item with more entries", 2, set(7, 3),
			cart.Cart{Ctx: api.Vec{5, 4, 0, 0, 0, 0, 0, 9}, L: []cart.Entry{l[0], l[1], entry(7, 2, 4, 3), l[5]}},
			Event{Kind: 2, Item: 7, Qty: 3, Dot: dot(2, 4), Off: []vec.Dot{dot(1, 1), dot(1, 4), dot(8, 9)}}},
		{"set of an item that is not there, to 0", 4, set(59, 0),
			cart.Cart{Ctx: api.Vec{5, 3, 0, 1, 0, 0, 0, 9}, L: slices.Insert(slices.Clone(l), 5, entry(59, 4, 1, 0))},
			Event{Kind: 2, Item: 59, Dot: dot(4, 1)}},
		{"set of the last item", 1, set(60, 1000),
			cart.Cart{Ctx: api.Vec{6, 3, 0, 0, 0, 0, 0, 9}, L: append(slices.Clone(l[:5]), entry(60, 1, 6, 1000))},
			Event{Kind: 2, Item: 60, Qty: 1000, Dot: dot(1, 6), Off: []vec.Dot{dot(2, 3)}}},
		{"remove of an item with two entries", 4, remove(5),
			cart.Cart{Ctx: usual().Ctx, L: l[2:]},
			Event{Kind: 3, Off: []vec.Dot{dot(1, 2), dot(2, 1)}}},
		{"remove of an item with 0", 1, remove(60),
			cart.Cart{Ctx: usual().Ctx, L: l[:5]},
			Event{Kind: 3, Off: []vec.Dot{dot(2, 3)}}},
		{"clear, the dots by dots", 5, clearAll(),
			cart.Cart{Ctx: usual().Ctx},
			Event{Kind: 4, Off: []vec.Dot{dot(1, 1), dot(1, 2), dot(1, 4), dot(2, 1), dot(2, 3), dot(8, 9)}}},
	} {
		got, done, e := Do(usual(), c.node, c.o)
		sameCart(t, c.name, got, c.want)
		sameEvent(t, c.name, done, c.done)
		if e != api.OK {
			t.Errorf("%s: %v", c.name, e)
		}
	}
}

// P7.1: the document's example, and a cart of nothing.
func TestDoExamples(t *testing.T) {
	c := cart.Cart{Ctx: api.Vec{2, 3}, L: []cart.Entry{entry(5, 1, 1, 2), entry(5, 2, 3, -3)}}
	got, done, e := Do(c, 1, set(5, 3))
	sameCart(t, "set of 3", got, cart.Cart{Ctx: api.Vec{3, 3}, L: []cart.Entry{entry(5, 1, 3, 3)}})
	sameEvent(t, "set of 3", done, Event{Kind: 2, Item: 5, Qty: 3, Dot: dot(1, 3), Off: []vec.Dot{dot(1, 1), dot(2, 3)}})
	if e != api.OK {
		t.Errorf("set of 3: %v", e)
	}
	for node := 1; node <= api.MaxNodes; node++ {
		var ctx api.Vec
		ctx[node-1] = 1
		for _, o := range []Op{add(3, -2), set(3, 2)} {
			got, done, e := Do(cart.Cart{}, node, o)
			sameCart(t, "of nothing", got, cart.Cart{Ctx: ctx, L: []cart.Entry{entry(3, node, 1, o.Qty)}})
			sameEvent(t, "of nothing", done, Event{Kind: o.Kind, Item: 3, Qty: o.Qty, Dot: dot(node, 1)})
			if e != api.OK {
				t.Errorf("of nothing: %v", e)
			}
		}
	}
}

// refuses holds an error, and nothing beside it, against what should come.
func refuses(t *testing.T, name string, c cart.Cart, node int, o Op, want api.Errno) {
	t.Helper()
	if got, done, e := Do(c, node, o); e != want || !nothing(got, done) {
		t.Errorf("%s: %v, %v, %v, want %v", name, got, done, e, want)
	}
}

// P7.1: ErrForm ahead of ErrArg ahead of ErrNode, of each kind, ahead of all that hangs on what the cart has.
func TestDoRefusals(t *testing.T) {
	for _, c := range wrongCarts() {
		for _, o := range append(rightOps(), wrongOps()...) {
			refuses(t, "a cart that may not be", c, 1, o, api.ErrForm)
			refuses(t, "a cart that may not be, of no node", c, 9, o, api.ErrForm)
		}
	}
	most := usual()
	most.Ctx = full
	for _, c := range []cart.Cart{{}, usual(), most, {Ctx: full, L: many(9, 3, 400)}} {
		for _, o := range wrongOps() {
			refuses(t, "an op that may not be", c, 1, o, api.ErrArg)
			refuses(t, "an op that may not be, of no node", c, 0, o, api.ErrArg)
		}
		for _, o := range rightOps() {
			for _, node := range wrongNodes() {
				refuses(t, "no node", c, node, o, api.ErrNode)
			}
		}
	}
}

// P7.1: what is not there is not removed.
func TestDoNone(t *testing.T) {
	for node := 1; node <= api.MaxNodes; node++ {
		for _, item := range []int{1, 4, 6, 8, 59} {
			refuses(t, "remove of what is not there", usual(), node, remove(item), api.ErrNone)
		}
		for _, c := range []cart.Cart{{}, {Ctx: full}, {Ctx: full, L: usual().L[:0]}} {
			refuses(t, "remove of nothing", c, node, remove(5), api.ErrNone)
			refuses(t, "clear of nothing", c, node, clearAll(), api.ErrNone)
		}
	}
	l := many(9, 3, 3)
	refuses(t, "remove of what stands behind the list", cart.Cart{Ctx: full, L: append(l[:2], entry(10, 4, 1, 1))[:2]}, 1, remove(10), api.ErrNone)
}

// P7.1: a node that has no next dot counts no more, though it may let go; that stands ahead of a cart that is full.
func TestDoCount(t *testing.T) {
	c := usual()
	c.Ctx[1], c.Ctx[2] = math.MaxUint64, math.MaxUint64-1
	for _, o := range []Op{add(5, 1), add(1, 1), set(5, 1), set(1, 0)} {
		refuses(t, "no next dot", c, 2, o, api.ErrCount)
		refuses(t, "no next dot, full", cart.Cart{Ctx: full, L: many(9, 3, 40)}, 2, add(5, 1), api.ErrCount)
		got, done, e := Do(c, 3, o)
		if e != api.OK || done.Dot != dot(3, math.MaxUint64) || got.Ctx[2] != math.MaxUint64 || got.Ctx[1] != math.MaxUint64 {
			t.Errorf("the last dot of a node: %v, %v, %v", got, done, e)
		}
	}
	for _, o := range []Op{remove(5), clearAll()} {
		if got, _, e := Do(c, 2, o); e != api.OK || got.Ctx != c.Ctx {
			t.Errorf("%v by a node that has no next dot: %v, %v", o, got, e)
		}
	}
}

// P7.1: a cart has at most MaxEntries entries behind an add, or a set; what a set lets go does not count.
func TestDoFull(t *testing.T) {
	for _, c := range []struct {
		name        string
		nine, ten   int
		o           Op
		want        int
		wantRefused api.Errno
	}{
		{"add, the last one", 39, 0, add(5, 1), 40, api.OK},
		{"add, one too many", 40, 0, add(5, 1), 0, api.ErrFull},
		{"add to its own item, one too many", 40, 0, add(9, 1), 0, api.ErrFull},
		{"add to a joined cart", 200, 200, add(9, 1), 0, api.ErrFull},
		{"add, of two items the last one", 20, 19, add(9, 1), 40, api.OK},
		{"add, of two items one too many", 20, 20, add(9, 1), 0, api.ErrFull},
		{"set, the last one", 39, 0, set(5, 1), 40, api.OK},
		{"set, one too many", 40, 0, set(5, 0), 0, api.ErrFull},
		{"set for all there is", 40, 0, set(9, 1), 1, api.OK},
		{"set for all there is of a joined cart", 400, 0, set(9, 1), 1, api.OK},
		{"set for some of a joined cart, the last one", 361, 39, set(9, 1), 40, api.OK},
		{"set for some of a joined cart, one too many", 360, 40, set(9, 1), 0, api.ErrFull},
		{"set for one of a full cart", 1, 39, set(9, 1), 40, api.OK},
		{"set for one, one too many", 1, 40, set(9, 1), 0, api.ErrFull},
		{"set for one, much too many", 1, 41, set(9, 1), 0, api.ErrFull},
		{"remove of a joined cart", 200, 200, remove(9), 200, api.OK},
		{"clear of a joined cart", 200, 200, clearAll(), 0, api.OK},
	} {
		was := cart.Cart{Ctx: api.Vec{0, 0, 1000, 1000}, L: append(many(9, 3, c.nine), many(10, 4, c.ten)...)}
		if !cart.Right(was) {
			t.Fatalf("%s: the cart may not be", c.name)
		}
		if c.wantRefused != api.OK {
			refuses(t, c.name, was, 1, c.o, c.wantRefused)
			continue
		}
		got, done, e := Do(was, 1, c.o)
		if e != api.OK || len(got.L) != c.want || !cart.Right(got) {
			t.Errorf("%s: %d entries, %v", c.name, len(got.L), e)
		}
		counted := 0
		if done.Dot != (vec.Dot{}) {
			counted = 1
		}
		if len(done.Off) != len(was.L)+counted-len(got.L) {
			t.Errorf("%s: %d dots are off", c.name, len(done.Off))
		}
	}
}

// P7.1: events are equal, if all of them is.
func TestSame(t *testing.T) {
	events := []Event{
		{}, {Kind: 1}, {Item: 1}, {Qty: 1}, {Qty: -1}, {Dot: dot(1, 0)}, {Dot: dot(0, 1)}, {Dot: dot(1, 1)},
		{Off: []vec.Dot{{}}}, {Off: []vec.Dot{dot(1, 1)}}, {Off: []vec.Dot{dot(1, 1), dot(1, 1)}},
		{Off: []vec.Dot{dot(1, 1), dot(2, 1)}}, {Off: []vec.Dot{dot(2, 1), dot(1, 1)}}, {Off: []vec.Dot{dot(1, 1), dot(2, 2)}},
		{Kind: 2, Item: 5, Qty: 3, Dot: dot(1, 6), Off: []vec.Dot{dot(1, 1), dot(2, 3)}},
		{Kind: 1, Item: 5, Qty: 3, Dot: dot(1, 6), Off: []vec.Dot{dot(1, 1), dot(2, 3)}},
		{Kind: 2, Item: 6, Qty: 3, Dot: dot(1, 6), Off: []vec.Dot{dot(1, 1), dot(2, 3)}},
		{Kind: 2, Item: 5, Qty: 4, Dot: dot(1, 6), Off: []vec.Dot{dot(1, 1), dot(2, 3)}},
		{Kind: 2, Item: 5, Qty: 3, Dot: dot(1, 7), Off: []vec.Dot{dot(1, 1), dot(2, 3)}},
		{Kind: 2, Item: 5, Qty: 3, Dot: dot(2, 6), Off: []vec.Dot{dot(1, 1), dot(2, 3)}},
		{Kind: 2, Item: 5, Qty: 3, Dot: dot(1, 6), Off: []vec.Dot{dot(1, 1)}},
		{Kind: math.MinInt, Item: math.MaxInt, Qty: math.MinInt, Dot: dot(math.MaxInt, math.MaxUint64)},
	}
	for i, a := range events {
		for j, b := range events {
			b.Off = slices.Clone(b.Off)
			if got := Same(a, b); got != (i == j) {
				t.Errorf("Same of %v and %v: %v", a, b, got)
			}
		}
	}
	if !Same(Event{Off: []vec.Dot{}}, Event{}) || !Same(Event{}, Event{Off: []vec.Dot{}}) {
		t.Errorf("no dots are not the same as none")
	}
	long := []vec.Dot{dot(1, 1), dot(2, 2)}
	if !Same(Event{Off: long[:1]}, Event{Off: []vec.Dot{dot(1, 1)}}) {
		t.Errorf("what stands behind a list counts")
	}
}

// P7.3: what is done may be, and is, of that item and of the others, what the op says.
func TestWhatIsDone(t *testing.T) {
	draw := draws(12)
	kinds := map[int]int{}
	for range 8000 {
		was, o, node := drawnCart(draw), drawnOp(draw), 1+draw(5)
		got, done, e := Do(was, node, o)
		if e != api.OK {
			if o.Kind != 4 && e == api.ErrNone && len(cart.Of(was, o.Item)) == 0 || o.Kind == 4 && e == api.ErrNone && len(was.L) == 0 {
				continue
			}
			t.Fatalf("%v of %v: %v", o, was, e)
		}
		kinds[o.Kind]++
		if !cart.Right(got) || !vec.Covers(got.Ctx, was.Ctx) {
			t.Fatalf("%v of %v: %v may not be", o, was, got)
		}
		var own []cart.Entry
		if o.Kind == 1 {
			own = cart.Of(was, o.Item)
		}
		if o.Kind == 1 || o.Kind == 2 {
			next, _ := vec.Next(was.Ctx, node)
			if done.Dot != next || got.Ctx != vec.With(was.Ctx, next) {
				t.Fatalf("%v of %v: %v, its dot %v", o, was, got, done.Dot)
			}
			own = cart.Order(append(own, entry(o.Item, node, next.N, o.Qty)))
		} else if done.Dot != (vec.Dot{}) || done.Item != 0 || done.Qty != 0 || got.Ctx != was.Ctx {
			t.Fatalf("%v of %v: %v, %v", o, was, got, done)
		}
		for item := 1; item <= api.MaxItem; item++ {
			want := cart.Of(was, item)
			if o.Kind == 4 {
				want = nil
			} else if item == o.Item {
				want = own
			}
			if !slices.Equal(cart.Of(got, item), want) {
				t.Fatalf("%v of %v: %v, of the item %d should be %v", o, was, got, item, want)
			}
		}
		holdOff(t, was, got, done)
	}
	for kind := 1; kind <= 4; kind++ {
		if kinds[kind] < 100 {
			t.Errorf("the kind %d was done %d times", kind, kinds[kind])
		}
	}
}

// holdOff holds what went off against what was live, and is not any more.
func holdOff(t *testing.T, was, got cart.Cart, done Event) {
	t.Helper()
	var off []vec.Dot
	for _, d := range cart.Live(was) {
		if !slices.Contains(cart.Live(got), d) {
			off = append(off, d)
		}
	}
	if !slices.Equal(done.Off, off) {
		t.Fatalf("of %v became %v, off are %v, want %v", was, got, done.Off, off)
	}
	for _, d := range off {
		if !cart.IsOff(got, d) {
			t.Fatalf("%v is not off in %v", d, got)
		}
	}
}

// P7.3: the quantities, as one reads them.
func TestQuantities(t *testing.T) {
	c := cart.Cart{}
	for _, step := range []struct {
		node int
		o    Op
		want []cart.Line
	}{
		{1, add(5, 3), []cart.Line{{Item: 5, Qty: 3}}},
		{2, add(5, -1), []cart.Line{{Item: 5, Qty: 2}}},
		{2, add(7, 10), []cart.Line{{Item: 5, Qty: 2}, {Item: 7, Qty: 10}}},
		{3, add(5, -9), []cart.Line{{Item: 5, Qty: 0}, {Item: 7, Qty: 10}}},
		{3, add(5, 8), []cart.Line{{Item: 5, Qty: 1}, {Item: 7, Qty: 10}}},
		{1, set(5, 6), []cart.Line{{Item: 5, Qty: 6}, {Item: 7, Qty: 10}}},
		{8, set(7, 0), []cart.Line{{Item: 5, Qty: 6}, {Item: 7, Qty: 0}}},
		{8, add(7, 1), []cart.Line{{Item: 5, Qty: 6}, {Item: 7, Qty: 1}}},
		{4, remove(5), []cart.Line{{Item: 7, Qty: 1}}},
		{4, add(5, 2), []cart.Line{{Item: 5, Qty: 2}, {Item: 7, Qty: 1}}},
		{4, clearAll(), nil},
		{4, set(1, 1000), []cart.Line{{Item: 1, Qty: 1000}}},
	} {
		next, _, e := Do(c, step.node, step.o)
		if e != api.OK || !cart.SameValue(cart.Value(next), step.want) {
			t.Fatalf("%v of %v: %v, %v", step.o, c, cart.Value(next), e)
		}
		c = next
	}
}

// P7.4: a dot is used once, also when its entry went off.
func TestDotOnce(t *testing.T) {
	draw := draws(77)
	var c cart.Cart
	used := map[vec.Dot]int{}
	counts := api.Vec{}
	for range 4000 {
		node, o := 1+draw(api.MaxNodes), drawnOp(draw)
		next, done, e := Do(c, node, o)
		if e != api.OK {
			continue
		}
		c = next
		if done.Dot == (vec.Dot{}) {
			continue
		}
		counts[node-1]++
		used[done.Dot]++
		if done.Dot != dot(node, counts[node-1]) || used[done.Dot] > 1 || !slices.Contains(cart.Live(c), done.Dot) {
			t.Fatalf("%v by %d: the dot %v, used %d times", o, node, done.Dot, used[done.Dot])
		}
	}
	if len(used) < 1000 || c.Ctx != counts {
		t.Fatalf("just %d dots, %v, of %v", len(used), c.Ctx, counts)
	}
}

// The whole's rules 4 and 5: a cart is neither changed nor kept, and what is handed out is new memory.
func TestMemory(t *testing.T) {
	for _, o := range []Op{add(5, 1), add(60, 1), set(7, 2), set(9, 0), remove(60), remove(5), clearAll()} {
		was := usual().L
		room := append(usual().L, entry(61, 9, 9, 9))
		c := cart.Cart{Ctx: usual().Ctx, L: room[:len(was)]}
		got, done, _ := Do(c, 3, o)
		want := slices.Clone(got.L)
		off := slices.Clone(done.Off)
		if !slices.Equal(c.L, was) || room[len(was)] != entry(61, 9, 9, 9) {
			t.Fatalf("%v has changed its cart: %v", o, room)
		}
		for i := range room {
			room[i] = cart.Entry{}
		}
		if !slices.Equal(got.L, want) || !slices.Equal(done.Off, off) {
			t.Fatalf("%v shares its cart: %v", o, got)
		}
		again, more, _ := Do(cart.Cart{Ctx: usual().Ctx, L: was}, 3, o)
		for i := range got.L {
			got.L[i] = cart.Entry{}
		}
		for i := range done.Off {
			done.Off[i] = vec.Dot{}
		}
		if !slices.Equal(was, usual().L) || !slices.Equal(again.L, want) || !slices.Equal(more.Off, off) {
			t.Fatalf("%v shares what it tells: %v, %v", o, again, more)
		}
	}
}
