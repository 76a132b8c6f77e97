package model

import (
	"math"
	"slices"
	"testing"

	"maund/api"
	"maund/edit"
	"maund/vec"
)

// P9.1: which events may be.
func TestRight(t *testing.T) {
	for _, x := range rightEvents() {
		if !Right(x) {
			t.Errorf("%.300v may not be", x)
		}
	}
	for _, x := range wrongEvents() {
		if Right(x) {
			t.Errorf("%.300v may be", x)
		}
	}
}

// P9.1: each small event, told by what the words say.
func TestRightEach(t *testing.T) {
	offs := []struct {
		off   []vec.Dot
		isSet bool
	}{
		{nil, true}, {[]vec.Dot{}, true}, {[]vec.Dot{dot(1, 1)}, true}, {[]vec.Dot{dot(1, 2), dot(2, 1)}, true},
		{[]vec.Dot{dot(2, 1), dot(1, 2)}, false}, {[]vec.Dot{dot(2, 2), dot(2, 2)}, false}, {[]vec.Dot{dot(0, 1)}, false}, {[]vec.Dot{{}}, false},
	}
	qtys := []int{-1001, -1000, -1, 0, 1, 1000, 1001}
	dots := []vec.Dot{{}, dot(1, 1), dot(1, 2), dot(2, 1), dot(8, 1), dot(9, 1), dot(0, 1), dot(1, 0)}
	may := 0
	for kind := -1; kind <= 6; kind++ {
		for _, item := range []int{-1, 0, 1, 60, 61} {
			for i, qty := range qtys {
				for j, d := range dots {
					for _, o := range offs {
						isItem, isDot := item == 1 || item == 60, j >= 1 && j <= 4
						nought := item == 0 && qty == 0 && j == 0
						want := o.isSet && !slices.Contains(o.off, d) &&
							(kind == 1 && isItem && isDot && i >= 1 && i <= 5 && qty != 0 && len(o.off) == 0 ||
								kind == 2 && isItem && isDot && i >= 3 && i <= 5 ||
								kind == 3 && nought || kind == 4 && nought)
						if want {
							may++
						}
						if x := (edit.Event{Kind: kind, Item: item, Qty: qty, Dot: d, Off: o.off}); Right(x) != want {
							t.Errorf("Right of %v: %v", x, !want)
						}
					}
				}
			}
		}
	}
	if may != 2*4*4*2+2*3*(4*4-3)+2*4 {
		t.Errorf("%d may be", may)
	}
}

// P9.1: what may be was done, whatever was done.
func TestRightOfWhatIsDone(t *testing.T) {
	draw := draws(9)
	at := newReplica(1)
	for range 3000 {
		if !at.do(draw) {
			continue
		}
		if x := at.knows[len(at.knows)-1]; !Right(x) {
			t.Fatalf("%v may not be", x)
		}
	}
}

// P9.2: an equal event, in whatever list.
func TestHas(t *testing.T) {
	all := append(rightEvents(), wrongEvents()...)
	for i, x := range all {
		if Has(nil, x) || Has(of(), x) || !Has(of(x), x) || !Has(all, copied(of(x))[0]) {
			t.Fatalf("Has of %.300v", x)
		}
		for _, y := range all[i+1:] {
			if got := Has(of(y), x); got != is(x, y) {
				t.Errorf("Has of %.300v in %.300v: %v", x, y, got)
			}
		}
	}
	if !Has(of(edit.Event{Kind: 3, Off: []vec.Dot{}}), remove()) {
		t.Errorf("no dots are not the same as none")
	}
	room := of(add(5, 1, dot(1, 1)), add(5, 1, dot(1, 2)))
	if Has(room[:1], room[1]) {
		t.Errorf("what stands behind a list counts")
	}
}

// P9.2: each field counts, also at its ends.
func TestUnlike(t *testing.T) {
	ends := []int{math.MinInt, -1 << 62, -2, -1, 0, 1, 2, 127, 128, 255, 256, 1 << 32, 1 << 62, math.MaxInt}
	var l []edit.Event
	for _, n := range ends {
		l = append(l, edit.Event{Kind: n}, edit.Event{Item: n}, edit.Event{Qty: n}, edit.Event{Dot: dot(n, 0)}, edit.Event{Dot: dot(0, uint64(n))},
			edit.Event{Off: []vec.Dot{dot(n, 0)}}, edit.Event{Off: []vec.Dot{dot(0, uint64(n))}}, edit.Event{Off: []vec.Dot{dot(0, uint64(n)), {}}}, edit.Event{Off: []vec.Dot{{}, dot(n, 0)}})
	}
	var once []edit.Event
	for _, x := range l {
		if !slices.ContainsFunc(once, func(y edit.Event) bool { return is(x, y) }) {
			once = append(once, x)
		}
	}
	sameEvents(t, "Union with itself", Union(l, l), once)
	for i, x := range once {
		others := slices.Delete(slices.Clone(once), i, i+1)
		if Has(others, x) || Subset(of(x), others) || !Subset(others, once) || Subset(once, others) {
			t.Errorf("%v is among the others", x)
		}
	}
}

// P9.2: the events of a, each once, as it stands first, and behind them those of b.
func TestUnion(t *testing.T) {
	x, y, z := add(5, 1, dot(1, 1)), remove(dot(1, 1), dot(2, 1)), edit.Event{Kind: 7, Item: -1}
	for name, c := range map[string]struct{ a, b, want []edit.Event }{
		"nothing":                   {nil, nil, nil},
		"no events":                 {of(), of(), nil},
		"of one alone":              {of(x, y), nil, of(x, y)},
		"of the other one alone":    {nil, of(y, x), of(y, x)},
		"one behind the other":      {of(z), of(y, x), of(z, y, x)},
		"a's order, then b's":       {of(y, x), of(x, z, y), of(y, x, z)},
		"twice in a":                {of(x, y, x, y), nil, of(x, y)},
		"twice in b":                {nil, of(x, z, z, x), of(x, z)},
		"twice in both":             {of(x, x), of(z, x, z), of(x, z)},
		"the same":                  {of(x, y, z), of(z, y, x), of(x, y, z)},
		"like, but for the off":     {of(remove(dot(1, 1))), of(remove(dot(1, 2)), remove(), remove(dot(1, 1))), of(remove(dot(1, 1)), remove(dot(1, 2)), remove())},
		"like, but for the off too": {of(remove(dot(2, 1), dot(1, 1))), of(remove(dot(1, 1), dot(2, 1))), of(remove(dot(2, 1), dot(1, 1)), remove(dot(1, 1), dot(2, 1)))},
		"like, but for the kind":    {of(remove()), of(clearAll(), remove()), of(remove(), clearAll())},
	} {
		sameEvents(t, name, Union(c.a, c.b), c.want)
	}
	room := of(x, y, z)
	sameEvents(t, "what stands behind a list", Union(room[:1], room[1:2]), of(x, y))
}

// P9.2: has b each event of a?
func TestSubset(t *testing.T) {
	x, y, z := add(5, 1, dot(1, 1)), remove(dot(1, 1), dot(2, 1)), edit.Event{Kind: 7, Item: -1}
	for _, c := range []struct {
		a, b []edit.Event
		want bool
	}{
		{nil, nil, true}, {nil, of(), true}, {of(), of(x), true}, {of(x), nil, false}, {of(x), of(), false},
		{of(x), of(x), true}, {of(x, x, x), of(x), true}, {of(x), of(y, x), true}, {of(x, y), of(x), false}, {of(x, y), of(y, z, x), true},
		{of(x, y, z), of(z, y), false}, {of(z), of(z, z), true}, {of(x), of(add(5, 1, dot(1, 2))), false}, {of(y), of(remove(dot(1, 1))), false},
		{of(remove()), of(edit.Event{Kind: 3, Off: []vec.Dot{}}), true},
	} {
		if got := Subset(c.a, c.b); got != c.want {
			t.Errorf("Subset of %v and %v: %v", c.a, c.b, got)
		}
	}
	room := of(x, y)
	if Subset(of(y), room[:1]) || !Subset(room[:1], of(x)) {
		t.Errorf("what stands behind a list counts")
	}
}

// P9.2: of any lists, told by each event against each.
func TestUnionOfAny(t *testing.T) {
	draw := draws(31)
	subsets := 0
	for range 20000 {
		a, b := drawn(draw), drawn(draw)
		var want []edit.Event
		for _, x := range append(copied(a), b...) {
			if !slices.ContainsFunc(want, func(y edit.Event) bool { return is(x, y) }) {
				want = append(want, x)
			}
		}
		union := Union(a, b)
		sameEvents(t, "Union", union, want)
		if !Subset(a, union) || !Subset(b, union) || !Subset(union, append(b, a...)) {
			t.Fatalf("Union of %v and %v: %v", a, b, union)
		}
		all := true
		for _, x := range a {
			in := slices.ContainsFunc(b, func(y edit.Event) bool { return is(x, y) })
			all = all && in
			if Has(b, x) != in {
				t.Fatalf("Has of %v in %v: %v", x, b, !in)
			}
		}
		if all {
			subsets++
		}
		if Subset(a, b) != all {
			t.Fatalf("Subset of %v and %v: %v", a, b, !all)
		}
	}
	if subsets < 1000 || subsets > 19000 {
		t.Errorf("%d of 20000 are subsets", subsets)
	}
}

// The whole's P1: long lists end, too.
func TestLong(t *testing.T) {
	var l []edit.Event
	for i := range 200000 {
		l = append(l, remove(dot(1, uint64(i)+1)))
	}
	other := mixed(draws(2), l)
	if got := Union(l, other); len(got) != len(l) || !is(got[199999], l[199999]) {
		t.Errorf("Union: %d", len(got))
	}
	if !Subset(other, l) || Subset(l, other[:199999]) || Whole(l) || len(Dots(l)) != 0 {
		t.Errorf("Subset or Whole of a long list")
	}
	refuses(t, "many adds", run(5, 3, 200000), api.ErrFull)
	if !Whole(slices.Repeat(usual(), 20000)) {
		t.Errorf("a long list is not whole")
	}
}

// The whole's rules 4 and 5: events are neither changed nor kept, and what is handed out is new memory.
func TestMemory(t *testing.T) {
	calls := map[string]func(a, b []edit.Event) []edit.Event{
		"Union":             Union,
		"Union the other":   func(a, b []edit.Event) []edit.Event { return Union(b, a) },
		"Union of one":      func(a, b []edit.Event) []edit.Event { return Union(a, nil) },
		"Union of the last": func(a, b []edit.Event) []edit.Event { return Union(nil, a) },
		"Union with itself": func(a, b []edit.Event) []edit.Event { return Union(a, a) },
		"what tells less": func(a, b []edit.Event) []edit.Event {
			Cart(a)
			Whole(a)
			Dots(a)
			Subset(a, b)
			Has(a, b[0])
			Right(a[0])
			return nil
		},
	}
	for name, call := range calls {
		a, b := copied(usual()), copied(usual()[:2])
		b[0].Kind = 9
		roomA := append(a, add(1, 1, dot(8, 1)))
		offs := append(a[0].Off, dot(7, 7))
		a, a[0].Off = roomA[:len(a)], offs[:1]
		wasA, wasB := copied(a), copied(b)
		got := call(a, b)
		want := copied(got)
		if !is(roomA[len(a)], add(1, 1, dot(8, 1))) || offs[1] != dot(7, 7) {
			t.Fatalf("%s writes behind a list", name)
		}
		for i := range got {
			for j := range got[i].Off[:cap(got[i].Off)] {
				got[i].Off[:cap(got[i].Off)][j] = vec.Dot{}
			}
			got[i] = edit.Event{}
		}
		sameEvents(t, name+": what was handed in", a, wasA)
		sameEvents(t, name+": what was handed in", b, wasB)
		again := call(a, b)
		for _, l := range [][]edit.Event{a, b} {
			for i := range l {
				clear(l[i].Off)
				l[i] = edit.Event{}
			}
		}
		sameEvents(t, name+": what was handed out", again, want)
	}
	x := remove(dot(1, 1))
	got := Union(of(x, x), of(x, clearAll(x.Off...)))
	got[0].Off[0] = vec.Dot{}
	if got[1].Off[0] != dot(1, 1) || x.Off[0] != dot(1, 1) {
		t.Errorf("lists of one answer share memory: %v", got)
	}
}
