package tally

import (
	"math"
	"testing"

	"maund/api"
)

// full is as much as a node can count.
const full = math.MaxUint64

// counters are some that stand to each other in all ways.
func counters() []Counter {
	l := []Counter{
		{},
		{Up: api.Vec{1}},
		{Down: api.Vec{1}},
		{Up: api.Vec{3, 0, 5}, Down: api.Vec{0, 2}},
		{Up: api.Vec{2, 0, 6}, Down: api.Vec{1, 2, 0, 0, 0, 0, 0, 4}},
		{Up: api.Vec{full, full - 1, 1 << 62, 1<<62 + 1}, Down: api.Vec{0, 0, 0, 0, 0, 0, 0, full}},
	}
	x := uint32(21)
	next := func() uint64 { x = x*1664525 + 1013904223; return uint64(x >> 30) }
	for range 20 {
		var c Counter
		for i := range api.MaxNodes {
			c.Up[i], c.Down[i] = next(), next()
		}
		l = append(l, c)
	}
	return l
}

// P5.2: a node counts for itself alone, up or down.
func TestCount(t *testing.T) {
	was := Counter{Up: api.Vec{10, 20, 30, 40, 50, 60, 70, 80}, Down: api.Vec{1, 2, 3, 4, 5, 6, 7, 8}}
	for node := 1; node <= api.MaxNodes; node++ {
		up, down, same := was, was, was
		up.Up[node-1] += 7
		down.Down[node-1] += 9
		for n, want := range map[int]Counter{7: up, -9: down, 0: same} {
			if got, e := Count(was, node, n); got != want || e != api.OK {
				t.Errorf("Count of %d by %d: %v, %v, want %v", n, node, got, e, want)
			}
		}
	}
}

// P5.2: a count is at most 2^64 - 1, that of the other way does not matter.
func TestCountMost(t *testing.T) {
	for _, c := range []struct {
		up, down uint64
		n        int
		wantUp   uint64
		wantDown uint64
		e        api.Errno
	}{
		{full - 1, 0, 1, full, 0, api.OK},
		{full - 1, 0, 2, 0, 0, api.ErrCount},
		{full, 0, 1, 0, 0, api.ErrCount},
		{full, 0, 0, full, 0, api.OK},
		{full, 3, -2, full, 5, api.OK},
		{0, full - 1, -1, 0, full, api.OK},
		{0, full - 1, -2, 0, 0, api.ErrCount},
		{0, full, -1, 0, 0, api.ErrCount},
		{3, full, 2, 5, full, api.OK},
		{full, full, 0, full, full, api.OK},
		{1 << 63, 0, math.MaxInt, full, 0, api.OK},
		{1<<63 + 1, 0, math.MaxInt, 0, 0, api.ErrCount},
		{0, 0, math.MinInt, 0, 1 << 63, api.OK},
		{0, 1<<63 - 1, math.MinInt, 0, full, api.OK},
		{0, 1 << 63, math.MinInt, 0, 0, api.ErrCount},
		{0, full, math.MinInt, 0, 0, api.ErrCount},
		{1 << 62, 1 << 62, 1, 1<<62 + 1, 1 << 62, api.OK},
	} {
		for node := 1; node <= api.MaxNodes; node++ {
			var was, want Counter
			was.Up[node-1], was.Down[node-1] = c.up, c.down
			want.Up[node-1], want.Down[node-1] = c.wantUp, c.wantDown
			if got, e := Count(was, node, c.n); got != want || e != c.e {
				t.Errorf("Count of %d by %d, of %d and %d: %v, %v, want %v, %v", c.n, node, c.up, c.down, got, e, want, c.e)
			}
		}
	}
}

// P5.2: what is no node counts nothing.
func TestCountNoNode(t *testing.T) {
	c := Counter{Up: api.Vec{full}, Down: api.Vec{0, full}}
	for _, node := range []int{0, -1, 9, 10, 1 << 32, 1<<32 + 1, math.MaxInt, math.MinInt} {
		for _, n := range numbers() {
			if got, e := Count(c, node, n); got != (Counter{}) || e != api.ErrNode {
				t.Errorf("Count of %d by %d: %v, %v", n, node, got, e)
			}
		}
	}
}

// P5.2: of each node the greater Up, and the greater Down.
func TestJoin(t *testing.T) {
	a := Counter{Up: api.Vec{3, 0, 5}, Down: api.Vec{0, 2, 0, 0, 0, 0, 0, full}}
	b := Counter{Up: api.Vec{2, 0, 6}, Down: api.Vec{1, 2, 0, 0, 0, 0, 0, 4}}
	want := Counter{Up: api.Vec{3, 0, 6}, Down: api.Vec{1, 2, 0, 0, 0, 0, 0, full}}
	if got := Join(a, b); got != want {
		t.Errorf("Join: %v, want %v", got, want)
	}
	for _, a := range counters() {
		for _, b := range counters() {
			got := Join(a, b)
			for i := range api.MaxNodes {
				if got.Up[i] != max(a.Up[i], b.Up[i]) || got.Down[i] != max(a.Down[i], b.Down[i]) {
					t.Fatalf("Join of %v and %v: %v", a, b, got)
				}
			}
		}
	}
}

// P5.2: the tally of all nodes, each way 2^62 at most.
func TestTotal(t *testing.T) {
	for _, c := range []struct {
		c    Counter
		want Tally
	}{
		{Counter{}, Tally{}},
		{Counter{Up: api.Vec{1, 2, 3, 4, 5, 6, 7, 8}, Down: api.Vec{10, 0, 0, 0, 0, 0, 0, 20}}, Tally{36, 30}},
		{Counter{Up: api.Vec{1 << 62}}, Tally{1 << 62, 0}},
		{Counter{Up: api.Vec{1<<62 - 1, 0, 0, 1}}, Tally{1 << 62, 0}},
		{Counter{Up: api.Vec{1<<62 - 1, 0, 0, 2}, Down: api.Vec{5}}, Tally{1 << 62, 5}},
		{Counter{Down: api.Vec{full, 1}}, Tally{0, 1 << 62}},
		{Counter{Down: api.Vec{1 << 63, 1 << 63}}, Tally{0, 1 << 62}},
		{Counter{Up: api.Vec{full, full, full, full, full, full, full, full}, Down: api.Vec{full, full, full, full, full, full, full, full}}, Tally{1 << 62, 1 << 62}},
	} {
		if got := Total(c.c); got != c.want {
			t.Errorf("Total of %v: %v, want %v", c.c, got, c.want)
		}
	}
	for _, c := range counters() {
		if got, want := Total(c), (Tally{exactly(c.Up[:]...), exactly(c.Down[:]...)}); got != want || !Right(got) {
			t.Errorf("Total of %v: %v, want %v", c, got, want)
		}
	}
}

// P5.3: counters are a lattice by Join.
func TestLattice(t *testing.T) {
	l := counters()
	for _, a := range l {
		if Join(a, a) != a || Join(a, Counter{}) != a {
			t.Fatalf("%v with itself, or with nothing, is another one", a)
		}
		for _, b := range l {
			if Join(a, b) != Join(b, a) || Join(a, Join(a, b)) != Join(a, b) {
				t.Fatalf("%v and %v: not in any order, however often", a, b)
			}
			for _, c := range l {
				if Join(Join(a, b), c) != Join(a, Join(b, c)) {
					t.Fatalf("%v, %v and %v: not however they are put together", a, b, c)
				}
				if Join(a, c) == c && Join(b, c) == c && Join(Join(a, b), c) != c {
					t.Fatalf("%v covers %v and %v, but not their Join", c, a, b)
				}
			}
		}
	}
}

// P5.3: each count of each node is there once, whichever way it came, and however often.
func TestEachCountOnce(t *testing.T) {
	x := uint32(33)
	next := func(n int) int { x = x*1664525 + 1013904223; return int(x>>8) % n }
	for range 100 {
		var at [api.MaxNodes]Counter // what each node knows
		var all []int
		for range 200 {
			i := next(api.MaxNodes)
			if next(2) == 0 {
				at[i] = Join(at[i], at[next(api.MaxNodes)])
				continue
			}
			n := next(2001) - 1000
			c, e := Count(at[i], i+1, n)
			if e != api.OK {
				t.Fatalf("Count of %d by %d: %v", n, i+1, e)
			}
			at[i] = c
			all = append(all, n)
		}
		var forth, back Counter
		for i := range at {
			forth = Join(forth, at[i])
			back = Join(at[len(at)-1-i], Join(back, at[next(len(at))]))
		}
		if forth != back || Total(forth) != Sum(all...) {
			t.Fatalf("%v one way, %v the other, counted %v", Total(forth), Total(back), Sum(all...))
		}
	}
}
