package ring

import (
	"math"
	"slices"
	"testing"
)

// P12.1: equal points, which no membership is known to have: the lesser node's first.
func TestInOrder(t *testing.T) {
	want := []point{{0, 1}, {0, 8}, {5, 2}, {5, 3}, {5, 3}, {5, 4}, {6, 1}, {1 << 63, 1}, {math.MaxUint64, 1}, {math.MaxUint64, 2}}
	for turn := range want {
		got := append(slices.Clone(want[turn:]), want[:turn]...)
		inOrder(got)
		if !slices.Equal(got, want) {
			t.Errorf("turned by %d: %v", turn, got)
		}
		slices.Reverse(got)
		inOrder(got)
		if !slices.Equal(got, want) {
			t.Errorf("turned round: %v", got)
		}
	}
	inOrder(nil)
}

// P12.2: from the first point that is not below the base, and round; of equal points each node.
func TestNodesFrom(t *testing.T) {
	l := []point{{3, 2}, {5, 1}, {5, 4}, {7, 2}, {9, 3}, {9, 3}, {math.MaxUint64, 5}}
	for _, c := range []struct {
		base uint64
		most int
		want []int
	}{
		{0, 1, []int{2}}, {3, 1, []int{2}}, {4, 1, []int{1}}, {5, 1, []int{1}}, {6, 1, []int{2}}, {8, 1, []int{3}}, {9, 1, []int{3}},
		{10, 1, []int{5}}, {math.MaxUint64, 1, []int{5}}, {5, 2, []int{1, 4}}, {5, 3, []int{1, 4, 2}}, {0, 5, []int{2, 1, 4, 3, 5}},
		{8, 3, []int{3, 5, 2}}, {math.MaxUint64, 5, []int{5, 2, 1, 4, 3}}, {6, 5, []int{2, 3, 5, 1, 4}},
		{0, 0, nil}, {7, 6, []int{2, 3, 5, 1, 4}},
	} {
		if got := nodesFrom(l, c.base, c.most); !slices.Equal(got, c.want) {
			t.Errorf("%d nodes from %d: %v, want %v", c.most, c.base, got, c.want)
		}
	}
	round := []point{{3, 2}, {5, 1}}
	if got := nodesFrom(round, 6, 2); !slices.Equal(got, []int{2, 1}) {
		t.Errorf("from behind the greatest point: %v", got)
	}
	if got := nodesFrom(nil, 0, 3); len(got) != 0 {
		t.Errorf("of no points: %v", got)
	}
}
