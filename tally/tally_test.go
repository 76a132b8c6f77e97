package tally

import (
	"math"
	"math/big"
	"slices"
	"testing"
)

// edges are counts at which something changes, those that may be ahead of those that may not.
func edges() []uint64 {
	return []uint64{
		0, 1, 2, 1000, most / 2, most/2 + 1, most - 2, most - 1, most,
		most + 1, math.MaxInt, 1 << 63, 1<<63 + 1, math.MaxUint64 - 1, math.MaxUint64,
	}
}

// numbers are ones to be counted, up and down.
func numbers() []int {
	return []int{
		0, 1, -1, 2, -3, 1000, -1000, most - 1, 1 - most, most, -most, most + 1, -most - 1,
		math.MaxInt - 1, math.MaxInt, -math.MaxInt, math.MinInt,
	}
}

// exactly is numbers together, without any bound, and then at most 2^62.
func exactly(l ...uint64) uint64 {
	all := new(big.Int)
	for _, n := range l {
		all.Add(all, new(big.Int).SetUint64(n))
	}
	if bound := new(big.Int).Lsh(big.NewInt(1), 62); all.Cmp(bound) > 0 {
		all = bound
	}
	return all.Uint64()
}

// below is what a number is below 0.
func below(n int) uint64 { return new(big.Int).Neg(big.NewInt(int64(n))).Uint64() }

// added is a tally with a number counted, worked out exactly.
func added(t Tally, n int) Tally {
	if n < 0 {
		return Tally{exactly(t.Up), exactly(t.Down, below(n))}
	}
	return Tally{exactly(t.Up, uint64(n)), exactly(t.Down)}
}

// tallies are all of two edges.
func tallies() []Tally {
	var l []Tally
	for _, u := range edges() {
		for _, d := range edges() {
			l = append(l, Tally{u, d})
		}
	}
	return l
}

// P5.1: each of both is at most 2^62.
func TestRight(t *testing.T) {
	for _, c := range []struct {
		t    Tally
		want bool
	}{
		{Tally{}, true}, {Tally{1, 2}, true}, {Tally{1 << 62, 0}, true}, {Tally{0, 1 << 62}, true}, {Tally{1 << 62, 1 << 62}, true},
		{Tally{1<<62 + 1, 0}, false}, {Tally{0, 1<<62 + 1}, false}, {Tally{1<<62 + 1, 1<<62 + 1}, false},
		{Tally{math.MaxUint64, 0}, false}, {Tally{0, math.MaxUint64}, false}, {Tally{5, 1 << 63}, false},
	} {
		if got := Right(c.t); got != c.want {
			t.Errorf("Right of %v: %v", c.t, got)
		}
	}
}

// P5.1: what is not below 0 goes up, what is below 0 down, each to 2^62 at most.
func TestAdd(t *testing.T) {
	for _, c := range []struct {
		t    Tally
		n    int
		want Tally
	}{
		{Tally{}, 0, Tally{}},
		{Tally{}, 5, Tally{5, 0}},
		{Tally{}, -5, Tally{0, 5}},
		{Tally{7, 9}, 3, Tally{10, 9}},
		{Tally{7, 9}, -3, Tally{7, 12}},
		{Tally{7, 9}, 0, Tally{7, 9}},
		{Tally{1<<62 - 1, 4}, 1, Tally{1 << 62, 4}},
		{Tally{1<<62 - 1, 4}, 2, Tally{1 << 62, 4}},
		{Tally{4, 1<<62 - 1}, -1, Tally{4, 1 << 62}},
		{Tally{4, 1<<62 - 1}, -2, Tally{4, 1 << 62}},
		{Tally{1 << 62, 1 << 62}, math.MaxInt, Tally{1 << 62, 1 << 62}},
		{Tally{}, math.MinInt, Tally{0, 1 << 62}},
		{Tally{}, math.MaxInt, Tally{1 << 62, 0}},
		{Tally{math.MaxUint64, 1 << 63}, 0, Tally{1 << 62, 1 << 62}},
		{Tally{math.MaxUint64, 3}, -1, Tally{1 << 62, 4}},
		{Tally{3, math.MaxUint64}, 1, Tally{4, 1 << 62}},
	} {
		if got := Add(c.t, c.n); got != c.want {
			t.Errorf("Add of %v and %d: %v, want %v", c.t, c.n, got, c.want)
		}
	}
	for _, a := range tallies() {
		for _, n := range numbers() {
			if got, want := Add(a, n), added(a, n); got != want || !Right(got) {
				t.Errorf("Add of %v and %d: %v, want %v", a, n, got, want)
			}
		}
	}
}

// P5.1: Sum is of all, from none on: the document's example, and the edges.
func TestSum(t *testing.T) {
	got := Sum(2, -3, 4)
	if got != (Tally{Up: 6, Down: 3}) || Value(got) != 3 {
		t.Errorf("Sum of the example: %v, its value %d", got, Value(got))
	}
	for _, c := range []struct {
		l    []int
		want Tally
	}{
		{nil, Tally{}},
		{[]int{}, Tally{}},
		{[]int{0, 0}, Tally{}},
		{[]int{9}, Tally{9, 0}},
		{[]int{-9}, Tally{0, 9}},
		{[]int{-1, -2, -3, 10}, Tally{10, 6}},
		{[]int{most, 1, -1}, Tally{1 << 62, 1}},
		{[]int{most - 1, 1, -most, -1}, Tally{1 << 62, 1 << 62}},
		{[]int{math.MinInt, math.MaxInt, math.MinInt, math.MaxInt, math.MaxInt}, Tally{1 << 62, 1 << 62}},
	} {
		if got := Sum(c.l...); got != c.want {
			t.Errorf("Sum of %v: %v, want %v", c.l, got, c.want)
		}
	}
	room := []int{1, -2, 50, -50}
	if got := Sum(room[:2]...); got != (Tally{1, 2}) || !slices.Equal(room, []int{1, -2, 50, -50}) {
		t.Errorf("Sum has read, or changed, what it may not: %v, %v", got, room)
	}
}

// P5.1: both together, each to 2^62 at most, of tallies that may not be, too.
func TestPlus(t *testing.T) {
	if got := Plus(Tally{1, 20}, Tally{300, 4000}); got != (Tally{301, 4020}) {
		t.Errorf("Plus: %v", got)
	}
	if got := Plus(Tally{math.MaxUint64, 1}, Tally{1, math.MaxUint64}); got != (Tally{1 << 62, 1 << 62}) {
		t.Errorf("Plus of what may not be: %v", got)
	}
	for _, a := range tallies() {
		for _, b := range tallies() {
			want := Tally{exactly(a.Up, b.Up), exactly(a.Down, b.Down)}
			if got := Plus(a, b); got != want {
				t.Fatalf("Plus of %v and %v: %v, want %v", a, b, got, want)
			}
		}
	}
}

// P5.1: Up less Down, at least 0.
func TestValue(t *testing.T) {
	for _, c := range []struct {
		t    Tally
		want uint64
	}{
		{Tally{}, 0}, {Tally{6, 3}, 3}, {Tally{3, 6}, 0}, {Tally{6, 6}, 0}, {Tally{6, 5}, 1}, {Tally{5, 6}, 0},
		{Tally{1 << 62, 0}, 1 << 62}, {Tally{0, 1 << 62}, 0}, {Tally{1 << 62, 1<<62 - 1}, 1}, {Tally{1 << 62, 1 << 62}, 0},
	} {
		if got := Value(c.t); got != c.want {
			t.Errorf("Value of %v: %d, want %d", c.t, got, c.want)
		}
	}
	for _, a := range tallies() {
		if got := Value(a); got > a.Up || a.Down < a.Up && got != a.Up-a.Down || a.Down >= a.Up && got != 0 {
			t.Errorf("Value of %v: %d", a, got)
		}
	}
}

// P5.3: the order in which a tally counts does not matter, nor how its parts are put together.
func TestAnyOrder(t *testing.T) {
	x := uint32(9)
	next := func(n int) int { x = x*1664525 + 1013904223; return int(x>>8) % n }
	all := numbers()
	for range 3000 {
		var l []int
		for range next(9) {
			l = append(l, all[next(len(all))])
		}
		want := Sum(l...)
		cut := next(len(l) + 1)
		if got := Plus(Sum(l[:cut]...), Sum(l[cut:]...)); got != want {
			t.Fatalf("Sum of %v: %v, cut at %d: %v", l, want, cut, got)
		}
		turned := slices.Clone(l)
		for i := range turned {
			j := next(len(turned))
			turned[i], turned[j] = turned[j], turned[i]
		}
		if got := Sum(turned...); got != want || !Right(got) {
			t.Fatalf("Sum of %v: %v, of %v: %v", l, want, turned, got)
		}
	}
}
