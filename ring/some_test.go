package ring

import (
	"crypto/sha256"
	"encoding/binary"
	"iter"
	"math"
	"slices"
	"sort"
	"testing"

	"maund/api"
)

// outside are numbers that are no node and no part.
func outside() []int {
	return []int{-1, -8, 9, 10, 16, 1 << 32, math.MinInt, math.MinInt + 1, math.MaxInt}
}

// configs yields each membership that may be.
func configs() iter.Seq[Config] {
	return func(yield func(Config) bool) {
		for nodes := 1; nodes <= 8; nodes++ {
			for virtual := 1; virtual <= 16; virtual++ {
				for replicas := 1; replicas <= nodes; replicas++ {
					if !yield(Config{Nodes: nodes, Virtual: virtual, Replicas: replicas}) {
						return
					}
				}
			}
		}
	}
}

// of is the ring of a membership that may be.
func of(t *testing.T, c Config) *Ring {
	t.Helper()
	r, e := New(c)
	if e != api.OK || r == nil {
		t.Fatalf("New(%v): %v, %v", c, r, e)
	}
	return r
}

// expected is a membership's points, in order, by another one's SHA-256.
func expected(c Config) []point {
	var all []point
	for node := 1; node <= c.Nodes; node++ {
		for i := range c.Virtual {
			d := sha256.Sum256([]byte{'n', "012345678"[node], "abcdefghijklmnop"[i]})
			all = append(all, point{at: binary.BigEndian.Uint64(d[:8]), node: node})
		}
	}
	sort.SliceStable(all, func(i, j int) bool { return all[i].at < all[j].at })
	return all
}

// expectedList is a part's list: the nodes, by how far on from the base their nearest point is. How far is told round the ring by the wrap of the difference.
func expectedList(c Config, part int) []int {
	far := map[int]uint64{}
	for _, p := range expected(c) {
		d := p.at - uint64(part)<<61
		if was, is := far[p.node]; !is || d < was {
			far[p.node] = d
		}
	}
	var nodes []int
	for node := 1; node <= c.Nodes; node++ {
		nodes = append(nodes, node)
	}
	sort.Slice(nodes, func(i, j int) bool { return far[nodes[i]] < far[nodes[j]] })
	return nodes[:c.Replicas]
}

// unlikeNodes tells whether all of l are unlike, and nodes of c.
func unlikeNodes(l []int, c Config) bool {
	for i, node := range l {
		if node < 1 || node > c.Nodes || slices.Contains(l[:i], node) {
			return false
		}
	}
	return true
}
