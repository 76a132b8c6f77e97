package route

import (
	"iter"
	"math"
	"slices"
	"strings"
	"testing"

	"maund/api"
	"maund/key"
	"maund/ring"
)

// configs yields memberships of each number of nodes and of replicas, with few points and with many.
func configs() iter.Seq[ring.Config] {
	return func(yield func(ring.Config) bool) {
		for nodes := 1; nodes <= api.MaxNodes; nodes++ {
			for _, virtual := range []int{1, 2, 5, api.MaxVirtual} {
				for replicas := 1; replicas <= nodes; replicas++ {
					if !yield(ring.Config{Nodes: nodes, Virtual: virtual, Replicas: replicas}) {
						return
					}
				}
			}
		}
	}
}

// of is the ring of a membership that may be.
func of(t *testing.T, c ring.Config) *ring.Ring {
	t.Helper()
	r, e := ring.New(c)
	if e != api.OK || r == nil {
		t.Fatalf("New(%v): %v, %v", c, r, e)
	}
	return r
}

// noRings are such as have no lists.
func noRings() []*ring.Ring { return []*ring.Ring{nil, new(ring.Ring)} }

// keys are keys that may be: each of the part that is its place.
func keys(t *testing.T) [api.Parts]string {
	t.Helper()
	var l [api.Parts]string
	for _, k := range append(strings.Split("abcdefghijklmnopqrstuvwxyz0123456789-", ""), "abc", "cart-1", strings.Repeat("z", 20)) {
		l[key.Part(k)] = k
	}
	if slices.Contains(l[:], "") {
		t.Fatalf("a part without a key: %q", l)
	}
	return l
}

// wrongKeys are such as may not be.
func wrongKeys() []string {
	return []string{"", "A", "Cart", "cart_1", "a b", "a.b", "é", "abc\x00", "\xff", "-\n", strings.Repeat("a", 21), strings.Repeat("a", 1<<16)}
}

// outside are numbers that are no node.
func outside() []int {
	return []int{0, -1, -8, 9, 10, 1 << 32, 1<<32 + 1, math.MinInt, math.MinInt + 1, math.MaxInt}
}

// subset is the nodes of which n has a bit: of the node 1 the lowest.
func subset(n int) []int {
	var l []int
	for node := 1; node <= api.MaxNodes; node++ {
		if n>>(node-1)&1 == 1 {
			l = append(l, node)
		}
	}
	return l
}
