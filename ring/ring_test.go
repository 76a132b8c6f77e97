package ring

import (
	"math"
	"slices"
	"sync"
	"testing"

	"maund/api"
)

// P12.1: each field at and around its edges.
func TestRight(t *testing.T) {
	for nodes := -2; nodes <= 20; nodes++ {
		for virtual := -2; virtual <= 20; virtual++ {
			for replicas := -2; replicas <= 20; replicas++ {
				c := Config{Nodes: nodes, Virtual: virtual, Replicas: replicas}
				want := nodes >= 1 && nodes <= 8 && virtual >= 1 && virtual <= 16 && replicas >= 1 && replicas <= nodes
				r, e := New(c)
				if Right(c) != want {
					t.Errorf("Right(%v): %v", c, !want)
				}
				if want && (r == nil || e != api.OK) || !want && (r != nil || e != api.ErrArg) {
					t.Errorf("New(%v): %v, %v", c, r, e)
				}
			}
		}
	}
	for _, n := range []int{math.MinInt, math.MinInt + 1, math.MaxInt, 1<<32 + 1, 257, -255} {
		for _, c := range []Config{{n, 1, 1}, {1, n, 1}, {1, 1, n}, {8, 16, n}, {n, 1, n}, {n, n, n}} {
			if r, e := New(c); Right(c) || r != nil || e != api.ErrArg {
				t.Errorf("%v: %v, %v, %v", c, Right(c), r, e)
			}
		}
	}
}

// P12.1, P12.2: of nil, or one that no call made.
func TestNoRing(t *testing.T) {
	for _, r := range []*Ring{nil, new(Ring)} {
		if r.Config() != (Config{}) || len(r.Points()) != 0 || len(r.Owners()) != 0 {
			t.Errorf("%v, %v, %v", r.Config(), r.Points(), r.Owners())
		}
		for n := -1; n <= 9; n++ {
			if len(r.List(n)) != 0 || len(r.Parts(n)) != 0 {
				t.Errorf("%d: %v, %v", n, r.List(n), r.Parts(n))
			}
			for part := -1; part <= 9; part++ {
				if r.Holds(n, part) {
					t.Errorf("%d holds %d", n, part)
				}
			}
		}
	}
}

// P12.1: points, and whose they are, by another program.
func TestKnownPoints(t *testing.T) {
	one := of(t, Config{1, 1, 1})
	if !slices.Equal(one.Points(), []uint64{0xB0CB6FD35FFF9BFA}) || !slices.Equal(one.Owners(), []int{1}) {
		t.Errorf("one node: %X, %v", one.Points(), one.Owners())
	}
	three := of(t, Config{3, 2, 2})
	want := []uint64{0x1FE792CA6346190B, 0x59C5F1113392851B, 0x928B6C8492A159C8, 0xB0CB6FD35FFF9BFA, 0xD02B93F10BE323BB, 0xD821D2C6EF1CD4AE}
	if !slices.Equal(three.Points(), want) || !slices.Equal(three.Owners(), []int{3, 3, 1, 1, 2, 2}) {
		t.Errorf("three nodes: %X, %v", three.Points(), three.Owners())
	}
}

// P12.2: lists, by another program. The part 7 of the first one is round the ring.
func TestKnownLists(t *testing.T) {
	for _, c := range []struct {
		c    Config
		want [api.Parts][]int
	}{
		{Config{3, 2, 2}, [api.Parts][]int{{3, 1}, {3, 1}, {3, 1}, {1, 2}, {1, 2}, {1, 2}, {2, 3}, {3, 1}}},
		{Config{5, 4, 3}, [api.Parts][]int{{5, 2, 3}, {4, 1, 3}, {3, 4, 5}, {2, 1, 4}, {4, 1, 5}, {1, 4, 2}, {4, 2, 3}, {3, 5, 2}}},
		{Config{8, 16, 8}, [api.Parts][]int{
			{2, 7, 5, 8, 1, 3, 6, 4}, {7, 4, 8, 3, 2, 1, 6, 5}, {4, 8, 6, 5, 1, 3, 7, 2}, {8, 5, 3, 1, 2, 4, 6, 7},
			{4, 2, 6, 7, 1, 5, 8, 3}, {5, 3, 1, 4, 7, 6, 2, 8}, {6, 1, 5, 7, 8, 4, 2, 3}, {2, 3, 6, 1, 8, 7, 5, 4},
		}},
	} {
		r := of(t, c.c)
		for part, want := range c.want {
			if got := r.List(part); !slices.Equal(got, want) {
				t.Errorf("%v, part %d: %v, want %v", c.c, part, got, want)
			}
		}
	}
	if got := of(t, Config{3, 2, 2}).Parts(3); !slices.Equal(got, []int{0, 1, 2, 6, 7}) {
		t.Errorf("the parts of the node 3: %v", got)
	}
}

// P12.1: of each membership: it, all points in order, and the node of each.
func TestPoints(t *testing.T) {
	for c := range configs() {
		r := of(t, c)
		want := expected(c)
		points, owners := r.Points(), r.Owners()
		if r.Config() != c || len(points) != len(want) || len(owners) != len(want) || len(want) != c.Nodes*c.Virtual {
			t.Fatalf("%v: %v, %d points, %d owners", c, r.Config(), len(points), len(owners))
		}
		for i, p := range want {
			if points[i] != p.at || owners[i] != p.node {
				t.Fatalf("%v: point %d is %X of %d, want %X of %d", c, i, points[i], owners[i], p.at, p.node)
			}
		}
	}
}

// P12.2: of each membership each part's list; there are no parts but these.
func TestList(t *testing.T) {
	for c := range configs() {
		r := of(t, c)
		for part := range api.Parts {
			if got, want := r.List(part), expectedList(c, part); !slices.Equal(got, want) {
				t.Fatalf("%v, part %d: %v, want %v", c, part, got, want)
			}
		}
		for _, part := range append(outside(), 8) {
			if got := r.List(part); len(got) != 0 {
				t.Fatalf("%v, part %d: %v", c, part, got)
			}
		}
	}
}

// P12.2, P12.3: what stands in a part's list is told by Holds, and by Parts.
func TestHoldsAndParts(t *testing.T) {
	for c := range configs() {
		r := of(t, c)
		held := map[int][]int{}
		for part := range api.Parts {
			l := r.List(part)
			for node := 0; node <= 9; node++ {
				if r.Holds(node, part) != slices.Contains(l, node) {
					t.Fatalf("%v, node %d, part %d: %v, list %v", c, node, part, r.Holds(node, part), l)
				}
			}
			for _, node := range l {
				held[node] = append(held[node], part)
			}
		}
		for node := 0; node <= 9; node++ {
			if got := r.Parts(node); !slices.Equal(got, held[node]) {
				t.Fatalf("%v, node %d: %v, want %v", c, node, got, held[node])
			}
		}
	}
}

// P12.2: what is no node holds nothing, and nobody holds what is no part.
func TestHoldsOutside(t *testing.T) {
	r := of(t, Config{8, 16, 8})
	for _, node := range append(outside(), 0) {
		if got := r.Parts(node); len(got) != 0 {
			t.Errorf("node %d: %v", node, got)
		}
		for part := -1; part <= 8; part++ {
			if r.Holds(node, part) {
				t.Errorf("node %d holds %d", node, part)
			}
		}
	}
	for _, part := range append(outside(), 8) {
		for node := 0; node <= 9; node++ {
			if r.Holds(node, part) {
				t.Errorf("node %d holds %d", node, part)
			}
		}
	}
	few := of(t, Config{3, 16, 3})
	if len(few.Parts(4)) != 0 || len(few.Parts(3)) != api.Parts {
		t.Errorf("of three nodes: %v, %v", few.Parts(4), few.Parts(3))
	}
}

// P12.3: each part is held by as many unlike nodes as there are replicas.
func TestReplicas(t *testing.T) {
	for c := range configs() {
		r := of(t, c)
		all := 0
		for part := range api.Parts {
			if l := r.List(part); len(l) != c.Replicas || !unlikeNodes(l, c) {
				t.Fatalf("%v, part %d: %v", c, part, l)
			}
		}
		for node := 1; node <= c.Nodes; node++ {
			all += len(r.Parts(node))
		}
		if all != c.Replicas*api.Parts {
			t.Fatalf("%v: parts are held %d times", c, all)
		}
	}
}

// The document's example: one node holds all parts.
func TestOneNode(t *testing.T) {
	for virtual := 1; virtual <= api.MaxVirtual; virtual++ {
		r := of(t, Config{1, virtual, 1})
		if got := r.Parts(1); !slices.Equal(got, []int{0, 1, 2, 3, 4, 5, 6, 7}) {
			t.Errorf("%d points: %v", virtual, got)
		}
	}
}

// P12.4: with one node more, a part's list has no node that it had not, but that one; those that stay keep their order.
func TestOneMore(t *testing.T) {
	came := 0
	for c := range configs() {
		if c.Nodes == api.MaxNodes {
			continue
		}
		more := Config{Nodes: c.Nodes + 1, Virtual: c.Virtual, Replicas: c.Replicas}
		before, behind := of(t, c), of(t, more)
		for part := range api.Parts {
			had, has := before.List(part), behind.List(part)
			want := had
			if at := slices.Index(has, more.Nodes); at >= 0 {
				want = slices.Insert(slices.Clone(had), at, more.Nodes)[:c.Replicas]
				came++
			}
			if !slices.Equal(has, want) {
				t.Fatalf("%v, part %d: %v, and with one more %v", c, part, had, has)
			}
		}
	}
	if came == 0 {
		t.Error("no node came to a list")
	}
}

// Ways: points are made once, when they are asked for first.
func TestMadeOnce(t *testing.T) {
	for name, ask := range map[string]func(r *Ring){
		"Points": func(r *Ring) { r.Points() },
		"Owners": func(r *Ring) { r.Owners() },
		"List":   func(r *Ring) { r.List(3) },
		"Holds":  func(r *Ring) { r.Holds(2, 3) },
		"Parts":  func(r *Ring) { r.Parts(2) },
	} {
		r := of(t, Config{3, 4, 2})
		r.Config()
		if r.points != nil {
			t.Errorf("%s: points that nobody asked for", name)
		}
		ask(r)
		if len(r.points) != 12 {
			t.Fatalf("%s: %d points", name, len(r.points))
		}
		first := &r.points[0]
		ask(r)
		r.Points()
		if &r.points[0] != first {
			t.Errorf("%s: points were made again", name)
		}
	}
}

// Ways: several goroutines that ask at once are told the same.
func TestTogether(t *testing.T) {
	c := Config{8, 16, 3}
	r := of(t, c)
	var lists [8][]int
	var g sync.WaitGroup
	for part := range lists {
		g.Go(func() { lists[part] = r.List(part) })
	}
	g.Wait()
	for part, got := range lists {
		if !slices.Equal(got, expectedList(c, part)) {
			t.Errorf("part %d: %v", part, got)
		}
	}
}

// Rule 5: what is handed out is new memory, without anything behind it.
func TestMemory(t *testing.T) {
	c := Config{5, 4, 3}
	r, again := of(t, c), of(t, c)
	for range 2 {
		points, owners, list, parts := r.Points(), r.Owners(), r.List(2), r.Parts(1)
		if !slices.Equal(points, again.Points()) || !slices.Equal(owners, again.Owners()) || !slices.Equal(list, again.List(2)) || !slices.Equal(parts, again.Parts(1)) {
			t.Fatalf("what was handed out is shared: %X, %v, %v, %v", points, owners, list, parts)
		}
		if cap(points) != len(points) || cap(owners) != len(owners) || cap(list) != len(list) || cap(parts) != len(parts) {
			t.Errorf("there is room behind: %d, %d, %d, %d", cap(points), cap(owners), cap(list), cap(parts))
		}
		clear(points)
		clear(owners)
		clear(list)
		clear(parts)
	}
}
