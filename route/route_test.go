package route

import (
	"slices"
	"strings"
	"testing"

	"maund/api"
	"maund/key"
	"maund/ring"
)

// P13.1: lists of keys, by another program; keys of the edges of a key's length among them.
func TestKnownLists(t *testing.T) {
	for _, c := range []struct {
		c    ring.Config
		k    string
		want []int
	}{
		{ring.Config{Nodes: 3, Virtual: 2, Replicas: 2}, "abc", []int{1, 2}},
		{ring.Config{Nodes: 3, Virtual: 2, Replicas: 2}, "a", []int{2, 3}},
		{ring.Config{Nodes: 3, Virtual: 2, Replicas: 2}, "0", []int{3, 1}},
		{ring.Config{Nodes: 5, Virtual: 4, Replicas: 3}, "abc", []int{1, 4, 2}},
		{ring.Config{Nodes: 5, Virtual: 4, Replicas: 3}, "cart-1", []int{4, 2, 3}},
		{ring.Config{Nodes: 5, Virtual: 4, Replicas: 3}, "0", []int{3, 4, 5}},
		{ring.Config{Nodes: 5, Virtual: 4, Replicas: 3}, strings.Repeat("z", 20), []int{4, 1, 3}},
		{ring.Config{Nodes: 8, Virtual: 1, Replicas: 2}, "-", []int{4, 5}},
		{ring.Config{Nodes: 1, Virtual: 1, Replicas: 1}, "abc", []int{1}},
	} {
		r := of(t, c.c)
		if got := List(r, c.k); !slices.Equal(got, c.want) {
			t.Errorf("%v, %q: %v, want %v", c.c, c.k, got, c.want)
		}
		for node := 0; node <= 9; node++ {
			if got := Holds(r, node, c.k); got != slices.Contains(c.want, node) {
				t.Errorf("%v, %q, node %d: %v", c.c, c.k, node, got)
			}
		}
	}
}

// P13.1: a key's list is that of its part, and Holds tells who is in it.
func TestListAndHolds(t *testing.T) {
	all := keys(t)
	for c := range configs() {
		r := of(t, c)
		for part, k := range all {
			l := List(r, k)
			if len(l) != c.Replicas || !slices.Equal(l, r.List(part)) {
				t.Fatalf("%v, %q: %v, the part's %v", c, k, l, r.List(part))
			}
			for node := 1; node <= api.MaxNodes; node++ {
				if Holds(r, node, k) != slices.Contains(l, node) {
					t.Fatalf("%v, %q, node %d: %v, list %v", c, k, node, Holds(r, node, k), l)
				}
			}
			for _, node := range outside() {
				if Holds(r, node, k) {
					t.Fatalf("%v, %q: %d holds it", c, k, node)
				}
			}
		}
	}
}

// P13.1, and the document's example: of a key that may not be there is no list, and nobody holds it.
func TestWrongKeys(t *testing.T) {
	everybody := []int{1, 2, 3, 4, 5, 6, 7, 8}
	for _, r := range append(noRings(), of(t, ring.Config{Nodes: 8, Virtual: 2, Replicas: 8})) {
		for _, k := range wrongKeys() {
			if len(List(r, k)) != 0 {
				t.Errorf("the list of %.30q: %v", k, List(r, k))
			}
			for node := -1; node <= 9; node++ {
				if Holds(r, node, k) || len(Others(r, k, node)) != 0 {
					t.Errorf("%.30q, node %d: %v, %v", k, node, Holds(r, node, k), Others(r, k, node))
				}
			}
			for _, up := range [][]int{nil, everybody} {
				if node, e := Pick(r, k, up); node != 0 || e != api.ErrArg {
					t.Errorf("Pick(%.30q, %v): %d, %v", k, up, node, e)
				}
			}
		}
	}
}

// P13.1, P13.2: a ring that is nil, or that no call made, has no list of anything.
func TestNoRing(t *testing.T) {
	for _, r := range noRings() {
		for _, k := range keys(t) {
			if len(List(r, k)) != 0 || Holds(r, 0, k) || Holds(r, 1, k) || len(Others(r, k, 1)) != 0 {
				t.Errorf("%q: %v, %v, %v, %v", k, List(r, k), Holds(r, 0, k), Holds(r, 1, k), Others(r, k, 1))
			}
			for _, up := range [][]int{nil, {}, {0}, {1, 2, 3, 4, 5, 6, 7, 8}} {
				if node, e := Pick(r, k, up); node != 0 || e != api.ErrNil {
					t.Errorf("Pick(%q, %v): %d, %v", k, up, node, e)
				}
			}
		}
		for a := -1; a <= 9; a++ {
			if len(Peers(r, a)) != 0 {
				t.Errorf("the peers of %d: %v", a, Peers(r, a))
			}
			for b := -1; b <= 9; b++ {
				if len(Shared(r, a, b)) != 0 {
					t.Errorf("%d and %d share %v", a, b, Shared(r, a, b))
				}
			}
		}
	}
}

// P13.1: the list's order counts, not up's; what is no node of the list counts nothing.
func TestKnownPicks(t *testing.T) {
	r := of(t, ring.Config{Nodes: 5, Virtual: 4, Replicas: 3})
	behind := []int{3, 1, 4, 2}
	for _, c := range []struct {
		up   []int
		node int
		e    api.Errno
	}{
		{[]int{1, 2, 3, 4, 5}, 1, api.OK}, {[]int{5, 4, 3, 2, 1}, 1, api.OK}, {[]int{2, 4}, 4, api.OK}, {[]int{4, 2}, 4, api.OK},
		{[]int{2}, 2, api.OK}, {[]int{3, 5, 2, 2, 3}, 2, api.OK}, {[]int{0, -1, 9, 1 << 32, 4}, 4, api.OK},
		{nil, 0, api.ErrAway}, {[]int{}, 0, api.ErrAway}, {[]int{3, 5}, 0, api.ErrAway}, {outside(), 0, api.ErrAway},
		{behind[:1], 0, api.ErrAway}, {behind[:0], 0, api.ErrAway},
	} {
		// The key's list is 1, 4, 2.
		if node, e := Pick(r, "abc", c.up); node != c.node || e != c.e {
			t.Errorf("up %v: %d, %v, want %d, %v", c.up, node, e, c.node, c.e)
		}
	}
}

// P13.1, P13.3: who is picked holds the key, and is up, and none ahead of it is; ErrAway, if none of the list is.
func TestPick(t *testing.T) {
	all := keys(t)
	for c := range configs() {
		if c.Virtual != 2 {
			continue
		}
		r := of(t, c)
		for _, k := range all {
			for n := range 1 << api.MaxNodes {
				up := subset(n)
				node, e := Pick(r, k, up)
				if !rightPick(List(r, k), up, node, e) || e == api.OK && !Holds(r, node, k) {
					t.Fatalf("%v, %q, up %v: %d, %v, list %v", c, k, up, node, e, List(r, k))
				}
				slices.Reverse(up)
				if again, e2 := Pick(r, k, up); again != node || e2 != e {
					t.Fatalf("%v, %q, up %v: %d, %v", c, k, up, again, e2)
				}
			}
		}
	}
}

// rightPick tells whether what Pick told of a list goes with who is up.
func rightPick(l, up []int, node int, e api.Errno) bool {
	for _, n := range l {
		if slices.Contains(up, n) {
			return n == node && e == api.OK
		}
	}
	return node == 0 && e == api.ErrAway
}

// P13.1: the list without a node, in order; the whole list, if the node is not in it.
func TestOthers(t *testing.T) {
	r := of(t, ring.Config{Nodes: 5, Virtual: 4, Replicas: 3})
	for node, want := range [][]int{0: {1, 4, 2}, 1: {4, 2}, 2: {1, 4}, 3: {1, 4, 2}, 4: {1, 2}, 5: {1, 4, 2}, 6: {1, 4, 2}} {
		if got := Others(r, "abc", node); !slices.Equal(got, want) {
			t.Errorf("without %d: %v, want %v", node, got, want)
		}
	}
	for _, node := range outside() {
		if got := Others(r, "abc", node); !slices.Equal(got, []int{1, 4, 2}) {
			t.Errorf("without %d: %v", node, got)
		}
	}
	if got := Others(of(t, ring.Config{Nodes: 1, Virtual: 1, Replicas: 1}), "abc", 1); len(got) != 0 {
		t.Errorf("without the only one: %v", got)
	}
	for c := range configs() {
		r := of(t, c)
		for _, k := range keys(t) {
			for at, node := range List(r, k) {
				l := List(r, k)
				if got, want := Others(r, k, node), slices.Delete(l, at, at+1); !slices.Equal(got, want) {
					t.Fatalf("%v, %q without %d: %v, want %v", c, k, node, got, want)
				}
			}
		}
	}
}

// P13.2: who shares what with whom, by another program.
func TestKnownPeers(t *testing.T) {
	r := of(t, ring.Config{Nodes: 6, Virtual: 2, Replicas: 2})
	for node, want := range [][]int{0: nil, 1: {6}, 2: {5}, 3: {5}, 4: {5}, 5: {2, 3, 4}, 6: {1}, 7: nil} {
		if got := Peers(r, node); !slices.Equal(got, want) {
			t.Errorf("the peers of %d: %v, want %v", node, got, want)
		}
	}
	shared := map[[2]int][]int{{1, 6}: {3, 4, 5}, {2, 5}: {6}, {3, 5}: {0, 7}, {4, 5}: {1, 2}}
	for a := 0; a <= 7; a++ {
		for b := 0; b <= 7; b++ {
			want := shared[[2]int{min(a, b), max(a, b)}]
			if got := Shared(r, a, b); !slices.Equal(got, want) {
				t.Errorf("%d and %d share %v, want %v", a, b, got, want)
			}
		}
	}
}

// P13.2: the parts that both hold, rising; of a node and itself nothing.
func TestShared(t *testing.T) {
	for c := range configs() {
		r := of(t, c)
		for a := 0; a <= 9; a++ {
			for b := 0; b <= 9; b++ {
				var want []int
				for part := range api.Parts {
					if a != b && r.Holds(a, part) && r.Holds(b, part) {
						want = append(want, part)
					}
				}
				if got := Shared(r, a, b); !slices.Equal(got, want) {
					t.Fatalf("%v, %d and %d: %v, want %v", c, a, b, got, want)
				}
			}
			for _, b := range outside() {
				if len(Shared(r, a, b)) != 0 || len(Shared(r, b, a)) != 0 || len(Shared(r, b, b)) != 0 {
					t.Fatalf("%v, %d and %d: %v, %v", c, a, b, Shared(r, a, b), Shared(r, b, a))
				}
			}
		}
	}
}

// P13.2, P13.3: the nodes with which a node shares a part, rising; they are peers of each other.
func TestPeers(t *testing.T) {
	for c := range configs() {
		r := of(t, c)
		for a := 0; a <= 9; a++ {
			var want []int
			for b := 1; b <= c.Nodes; b++ {
				if len(Shared(r, a, b)) > 0 {
					want = append(want, b)
				}
			}
			got := Peers(r, a)
			if !slices.Equal(got, want) || slices.Contains(got, a) {
				t.Fatalf("%v, the peers of %d: %v, want %v", c, a, got, want)
			}
			for _, b := range got {
				if !slices.Contains(Peers(r, b), a) {
					t.Fatalf("%v: %d is a peer of %d, but not the other way", c, b, a)
				}
			}
		}
		for _, a := range outside() {
			if got := Peers(r, a); len(got) != 0 {
				t.Fatalf("%v, the peers of %d: %v", c, a, got)
			}
		}
	}
}

// P13.2: where each part has one replica there are no peers; where each node holds all, all others are.
func TestPeersEdges(t *testing.T) {
	alone, together := of(t, ring.Config{Nodes: 8, Virtual: 16, Replicas: 1}), of(t, ring.Config{Nodes: 8, Virtual: 16, Replicas: 8})
	for node := 1; node <= api.MaxNodes; node++ {
		if got := Peers(alone, node); len(got) != 0 {
			t.Errorf("one replica, the peers of %d: %v", node, got)
		}
		want := slices.Delete(subset(1<<api.MaxNodes-1), node-1, node)
		if got := Peers(together, node); !slices.Equal(got, want) {
			t.Errorf("the peers of %d: %v, want %v", node, got, want)
		}
		for _, other := range want {
			if got := Shared(together, node, other); len(got) != api.Parts || !slices.IsSorted(got) {
				t.Errorf("%d and %d share %v", node, other, got)
			}
		}
	}
}

// Rule 5: what is handed out is new memory, without anything behind it; what is handed in stays as it was.
func TestMemory(t *testing.T) {
	r := of(t, ring.Config{Nodes: 5, Virtual: 4, Replicas: 3})
	for range 2 {
		for name, c := range map[string]struct{ got, want []int }{
			"List":   {List(r, "abc"), []int{1, 4, 2}},
			"Others": {Others(r, "abc", 4), []int{1, 2}},
			"Shared": {Shared(r, 2, 3), []int{0, 6, 7}},
			"Peers":  {Peers(r, 2), []int{1, 3, 4, 5}},
		} {
			if !slices.Equal(c.got, c.want) {
				t.Fatalf("%s: %v, want %v", name, c.got, c.want)
			}
			if cap(c.got) != len(c.got) {
				t.Errorf("%s: there is room behind: %d of %d", name, len(c.got), cap(c.got))
			}
			clear(c.got)
		}
	}
	up := []int{5, 2, 3, 4}
	if node, e := Pick(r, "abc", up); node != 4 || e != api.OK || !slices.Equal(up, []int{5, 2, 3, 4}) {
		t.Errorf("Pick: %d, %v, up %v", node, e, up)
	}
}

// The keys of these tests are of the parts of which they are taken to be.
func TestKeys(t *testing.T) {
	for part, k := range keys(t) {
		if !key.Right(k) || key.Part(k) != part {
			t.Errorf("%q: %v, of the part %d", k, key.Right(k), key.Part(k))
		}
	}
	for _, k := range wrongKeys() {
		if key.Right(k) {
			t.Errorf("%.30q may be", k)
		}
	}
}
