package vec

import (
	"math"
	"testing"

	"maund/api"
)

// many is vectors that stand to each other in all ways: edges, and some made by a short rule.
func many() []api.Vec {
	const most = math.MaxUint64
	l := []api.Vec{
		{},
		{1},
		{0, 1},
		{1, 1},
		{1, 0, 2},
		{0, 3},
		{1, 3, 2},
		{0, 0, 0, 0, 0, 0, 0, 1},
		{most},
		{0, 0, 0, 0, 0, 0, 0, most},
		{most - 1, 0, 0, 0, 1 << 63, 0, 0, most - 1},
		{most, most, most, most, most, most, most, most},
		{2, 2, 2, 2, 2, 2, 2, 2},
		{1 << 32, 1<<32 - 1, 1 << 63, 1<<63 - 1},
	}
	x := uint32(5)
	for range 60 {
		var v api.Vec
		for i := range v {
			x = x*1664525 + 1013904223
			v[i] = uint64(x >> 24 % 4)
		}
		l = append(l, v)
	}
	return l
}

// covers is what the words say: at least as many of each node.
func covers(a, b api.Vec) bool {
	for i := range a {
		if a[i] < b[i] {
			return false
		}
	}
	return true
}

// wrongNodes are none of the nodes.
func wrongNodes() []int {
	return []int{0, -1, 9, 10, 1 << 32, 1<<32 + 1, math.MaxInt, math.MinInt, math.MinInt + 1}
}

// P3.1: each node has its number, and what is no node has none.
func TestGet(t *testing.T) {
	v := api.Vec{10, 20, 30, 40, 50, 60, 70, math.MaxUint64}
	for node, want := range []uint64{0, 10, 20, 30, 40, 50, 60, 70, math.MaxUint64} {
		if got := Get(v, node); got != want {
			t.Errorf("Get of %d: %d, want %d", node, got, want)
		}
	}
	for _, node := range wrongNodes() {
		if got := Get(v, node); got != 0 {
			t.Errorf("Get of %d: %d", node, got)
		}
	}
}

// P3.1: With is at least N of that node, and else v.
func TestWith(t *testing.T) {
	v := api.Vec{5, 0, 7, 0, 0, 0, 0, math.MaxUint64 - 1}
	for _, c := range []struct {
		d    Dot
		want uint64
	}{
		{Dot{1, 1}, 5}, {Dot{1, 4}, 5}, {Dot{1, 5}, 5}, {Dot{1, 6}, 6}, {Dot{1, 100}, 100},
		{Dot{2, 1}, 1}, {Dot{3, 8}, 8}, {Dot{4, math.MaxUint64}, math.MaxUint64},
		{Dot{8, 1}, math.MaxUint64 - 1}, {Dot{8, math.MaxUint64}, math.MaxUint64},
	} {
		want := v
		want[c.d.Node-1] = c.want
		if got := With(v, c.d); got != want {
			t.Errorf("With %v: %v, want %v", c.d, got, want)
		}
	}
	for _, d := range wrongDots() {
		if got := With(v, d); got != v {
			t.Errorf("With %v: %v, want %v", d, got, v)
		}
	}
}

// P3.1: Join is of each node the greatest number: the document's example, none, one and more.
func TestJoin(t *testing.T) {
	if got := Join(api.Vec{1, 0, 2}, api.Vec{0, 3}); got != (api.Vec{1, 3, 2}) {
		t.Errorf("Join: %v", got)
	}
	if got := Join(); got != (api.Vec{}) {
		t.Errorf("Join of none: %v", got)
	}
	if got := Join([]api.Vec{}...); got != (api.Vec{}) {
		t.Errorf("Join of an empty list: %v", got)
	}
	l := []api.Vec{{1, 9}, {4, 2, 0, 0, 0, 0, 0, 6}, {2, 3, math.MaxUint64}}
	if got := Join(l...); got != (api.Vec{4, 9, math.MaxUint64, 0, 0, 0, 0, 6}) {
		t.Errorf("Join of three: %v", got)
	}
	if l[0] != (api.Vec{1, 9}) || l[1] != (api.Vec{4, 2, 0, 0, 0, 0, 0, 6}) || l[2] != (api.Vec{2, 3, math.MaxUint64}) {
		t.Errorf("Join has changed its list: %v", l)
	}
	for _, v := range many() {
		if Join(v) != v || Join(v, v) != v || Join(api.Vec{}, v) != v {
			t.Errorf("Join of %v alone: %v", v, Join(v))
		}
	}
	behind := []api.Vec{{1}, {2}, {9, 9}}
	if got := Join(behind[:2]...); got != (api.Vec{2}) {
		t.Errorf("Join has read behind its list: %v", got)
	}
}

// P3.1: Meet is of each node the least number.
func TestMeet(t *testing.T) {
	for _, c := range []struct{ a, b, want api.Vec }{
		{api.Vec{1, 0, 2}, api.Vec{0, 3}, api.Vec{}},
		{api.Vec{1, 4, 2}, api.Vec{5, 3}, api.Vec{1, 3}},
		{api.Vec{0, 0, 0, 0, 0, 0, 0, math.MaxUint64}, api.Vec{0, 0, 0, 0, 0, 0, 0, 7}, api.Vec{0, 0, 0, 0, 0, 0, 0, 7}},
	} {
		if got := Meet(c.a, c.b); got != c.want {
			t.Errorf("Meet of %v and %v: %v, want %v", c.a, c.b, got, c.want)
		}
		if got := Meet(c.b, c.a); got != c.want {
			t.Errorf("Meet of %v and %v: %v, want %v", c.b, c.a, got, c.want)
		}
	}
}

// P3.1: Covers and Order, of each vector to each.
func TestOrder(t *testing.T) {
	for _, a := range many() {
		for _, b := range many() {
			if got, want := Covers(a, b), covers(a, b); got != want {
				t.Errorf("Covers of %v and %v: %v", a, b, got)
			}
			want := 2
			if a == b {
				want = 0
			} else if covers(a, b) {
				want = 1
			} else if covers(b, a) {
				want = -1
			}
			if got := Order(a, b); got != want {
				t.Errorf("Order of %v and %v: %d, want %d", a, b, got, want)
			}
		}
	}
	for i := range api.MaxNodes {
		var one api.Vec
		one[i] = 1
		if Order(one, api.Vec{}) != 1 || Order(api.Vec{}, one) != -1 || Order(one, one) != 0 {
			t.Errorf("Order of one event of %d", i+1)
		}
	}
	if Order(api.Vec{1}, api.Vec{0, 1}) != 2 {
		t.Errorf("Order of two that stand side by side")
	}
}

// P3.1: a vector covers the dots up to its number, and none that may not be.
func TestHas(t *testing.T) {
	v := api.Vec{3, 0, 1, 0, 0, 0, 0, math.MaxUint64}
	for _, c := range []struct {
		d    Dot
		want bool
	}{
		{Dot{1, 1}, true}, {Dot{1, 3}, true}, {Dot{1, 4}, false}, {Dot{1, math.MaxUint64}, false},
		{Dot{2, 1}, false}, {Dot{3, 1}, true}, {Dot{3, 2}, false},
		{Dot{8, 1}, true}, {Dot{8, math.MaxUint64}, true},
	} {
		if got := Has(v, c.d); got != c.want {
			t.Errorf("Has %v: %v", c.d, got)
		}
	}
	for _, d := range wrongDots() {
		if Has(v, d) {
			t.Errorf("Has %v", d)
		}
	}
}

// P3.1: the next dot of each node, and why there is none.
func TestNext(t *testing.T) {
	v := api.Vec{3, 0, 1, 0, 0, 0, math.MaxUint64 - 1, math.MaxUint64}
	for _, want := range []Dot{{1, 4}, {2, 1}, {3, 2}, {6, 1}, {7, math.MaxUint64}} {
		if got, e := Next(v, want.Node); got != want || e != api.OK {
			t.Errorf("Next of %d: %v, %v, want %v", want.Node, got, e, want)
		}
	}
	if got, e := Next(v, 8); got != (Dot{}) || e != api.ErrCount {
		t.Errorf("Next of the greatest number: %v, %v", got, e)
	}
	for _, node := range wrongNodes() {
		if got, e := Next(v, node); got != (Dot{}) || e != api.ErrNode {
			t.Errorf("Next of %d: %v, %v", node, got, e)
		}
	}
}

// P3.3: Join is the least that covers all, Meet the greatest that all cover.
func TestLattice(t *testing.T) {
	l := many()
	for _, a := range l {
		for _, b := range l {
			up, down := Join(a, b), Meet(a, b)
			if !Covers(up, a) || !Covers(up, b) || !Covers(a, down) || !Covers(b, down) {
				t.Fatalf("%v and %v: Join %v, Meet %v", a, b, up, down)
			}
			if up != Join(b, a) || down != Meet(b, a) || Join(a, down) != a || Meet(a, up) != a {
				t.Fatalf("%v and %v: not one way and the other", a, b)
			}
			for _, c := range l {
				if Covers(c, a) && Covers(c, b) && !Covers(c, up) {
					t.Fatalf("%v covers %v and %v, but not their Join %v", c, a, b, up)
				}
				if Covers(a, c) && Covers(b, c) && !Covers(down, c) {
					t.Fatalf("%v and %v cover %v, but their Meet %v does not", a, b, c, down)
				}
				if Join(a, b, c) != Join(up, c) || Meet(down, c) != Meet(a, Meet(b, c)) {
					t.Fatalf("%v, %v and %v: not in whatever order", a, b, c)
				}
			}
		}
	}
}

// P3.3: a vector with its next dot covers that, and one more.
func TestNextIsOneMore(t *testing.T) {
	for _, v := range many() {
		for node := 1; node <= api.MaxNodes; node++ {
			d, e := Next(v, node)
			if e != api.OK {
				if e != api.ErrCount || Get(v, node) != math.MaxUint64 {
					t.Fatalf("Next of %v and %d: %v", v, node, e)
				}
				continue
			}
			more := With(v, d)
			if Has(v, d) || !Has(more, d) || Get(more, node) != Get(v, node)+1 || Order(more, v) != 1 {
				t.Fatalf("%v with %v: %v", v, d, more)
			}
			if more != Join(v, With(api.Vec{}, d)) {
				t.Fatalf("%v with %v is not their Join", v, d)
			}
			for other := 1; other <= api.MaxNodes; other++ {
				if other != node && Get(more, other) != Get(v, other) {
					t.Fatalf("%v with %v has another number of %d: %v", v, d, other, more)
				}
			}
		}
	}
}
