package files

import (
	"math"
	"slices"
	"strings"
	"sync"
	"testing"

	"maund/api"
)

// P14.1: a quota below 0 may not be; of 0 or more there are no files.
func TestNew(t *testing.T) {
	for _, quota := range []int{0, 1, 2, 1000, math.MaxInt} {
		f := some(t, quota)
		if len(f.Names()) != 0 || f.Used() != 0 {
			t.Errorf("quota %d: %q, %d", quota, f.Names(), f.Used())
		}
		counted(t, f, 0, 0)
		gone(t, f, "a")
	}
	for _, quota := range []int{-1, -2, math.MinInt, math.MinInt + 1} {
		if f, e := New(quota); f != nil || e != api.ErrArg {
			t.Errorf("New(%d): %v, %v", quota, f, e)
		}
	}
}

// P14.1: of nil, or of files that no call made: ErrNil, ahead of all other errors, and nothing changes.
func TestNoFiles(t *testing.T) {
	for _, f := range noFiles() {
		for range 2 {
			for _, name := range append(rightNames(), wrongNames()...) {
				b, e := f.Read(name)
				if len(b) != 0 || e != api.ErrNil || f.Safe(name) != 0 {
					t.Errorf("%.30q: %q, %v, %d", name, b, e, f.Safe(name))
				}
				for what, e := range map[string]api.Errno{
					"Append": f.Append(name, []byte("ab")), "Append of nothing": f.Append(name, nil), "Sync": f.Sync(name), "Remove": f.Remove(name),
					"Rename": f.Rename(name, "b"), "Rename to it": f.Rename("b", name), "Rename to itself": f.Rename(name, name),
					"Cut": f.Cut(name, 0), "Cut below 0": f.Cut(name, -1),
				} {
					if e != api.ErrNil {
						t.Errorf("%s of %.30q: %v", what, name, e)
					}
				}
			}
			f.Crash(nil)
			f.Crash([]int{1, 2, -1})
			if len(f.Names()) != 0 || f.Used() != 0 {
				t.Errorf("%q, %d", f.Names(), f.Used())
			}
			counted(t, f, 0, 0)
		}
	}
}

// P14.1: names rise, as bytes.
func TestNames(t *testing.T) {
	want := []string{"-", "--", "-a", ".", "..", ".0", "0", "00", "10", "9", "a", "a-", "a.", "a0", "aa", "log-000009", "log-000010", "snap-000001", "snap.tmp", "z"}
	for turn := range want {
		f := some(t, 0)
		for _, name := range append(slices.Clone(want[turn:]), want[:turn]...) {
			ok(t, "Append", f.Append(name, nil))
		}
		if got := f.Names(); !slices.Equal(got, want) {
			t.Fatalf("turned by %d: %q", turn, got)
		}
	}
}

// P14.1: what all files have, what is safe, and what was counted.
func TestAsked(t *testing.T) {
	f := some(t, 0)
	put(t, f, "b", "abcde", 2)
	put(t, f, "a", "xyz", 0)
	if f.Used() != 8 || f.Safe("a") != 0 || f.Safe("b") != 2 || f.Safe("c") != 0 || f.Safe("") != 0 || f.Safe("B") != 0 {
		t.Errorf("%d used, %d, %d, %d safe", f.Used(), f.Safe("a"), f.Safe("b"), f.Safe("c"))
	}
	counted(t, f, 8, 1)
	ok(t, "Sync", f.Sync("b"))
	ok(t, "Sync again", f.Sync("b"))
	counted(t, f, 8, 3)
	ok(t, "Append of nothing", f.Append("a", []byte{}))
	ok(t, "Cut", f.Cut("b", 1))
	ok(t, "Rename", f.Rename("b", "c"))
	ok(t, "Remove", f.Remove("c"))
	f.Crash([]int{1})
	if f.Used() != 1 {
		t.Errorf("%d used", f.Used())
	}
	counted(t, f, 8, 3)
}

// P14.2: each byte, alone, and at each place of names of each length.
func TestNameBytes(t *testing.T) {
	for x := range 256 {
		b := byte(x)
		want := b >= 'a' && b <= 'z' || b >= '0' && b <= '9' || b == '-' || b == '.'
		for n := 1; n <= 20; n++ {
			for at := range n {
				name := []byte(strings.Repeat("k", n))
				name[at] = b
				f := some(t, 0)
				e := f.Append(string(name), []byte("a"))
				if want && e != api.OK || !want && e != api.ErrArg || (len(f.Names()) == 1) != want {
					t.Fatalf("Append to %q: %v, %q", name, e, f.Names())
				}
			}
		}
	}
}

// P14.2: from 1 to 20 bytes; as the name of a new file, and as that of a file that is renamed.
func TestNamesThatMayBe(t *testing.T) {
	for _, name := range rightNames() {
		f := some(t, 0)
		ok(t, "Append to "+name, f.Append(name, []byte("ab")))
		has(t, f, name, "ab", 0)
		ok(t, "Rename of "+name, f.Rename(name, "other"))
		gone(t, f, name)
		ok(t, "Rename to "+name, f.Rename("other", name))
		has(t, f, name, "ab", 0)
		ok(t, "Remove of "+name, f.Remove(name))
		gone(t, f, name)
	}
	f := some(t, 0)
	put(t, f, "a", "xyz", 1)
	for _, name := range wrongNames() {
		stays(t, f, "Append", api.ErrArg, func() api.Errno { return f.Append(name, []byte("ab")) })
		stays(t, f, "Append of nothing", api.ErrArg, func() api.Errno { return f.Append(name, nil) })
		stays(t, f, "Rename to", api.ErrArg, func() api.Errno { return f.Rename("a", name) })
		stays(t, f, "Rename from", api.ErrNone, func() api.Errno { return f.Rename(name, "b") })
		stays(t, f, "Rename of none to it", api.ErrNone, func() api.Errno { return f.Rename("none", name) })
		stays(t, f, "Rename to itself", api.ErrNone, func() api.Errno { return f.Rename(name, name) })
		stays(t, f, "Sync", api.ErrNone, func() api.Errno { return f.Sync(name) })
		stays(t, f, "Remove", api.ErrNone, func() api.Errno { return f.Remove(name) })
		stays(t, f, "Cut", api.ErrNone, func() api.Errno { return f.Cut(name, 0) })
		gone(t, f, name)
	}
}

// P14.2: bytes stand behind those that there are, of a new file, if there is none.
func TestAppend(t *testing.T) {
	f := some(t, 0)
	ok(t, "Append", f.Append("a", []byte("one")))
	ok(t, "Append", f.Append("b", nil))
	ok(t, "Append", f.Append("a", []byte{}))
	ok(t, "Append", f.Append("a", []byte{0, 255, 10}))
	has(t, f, "a", "one\x00\xff\n", 0)
	has(t, f, "b", "", 0)
	if !slices.Equal(f.Names(), []string{"a", "b"}) {
		t.Errorf("names: %q", f.Names())
	}
	ok(t, "Sync", f.Sync("a"))
	ok(t, "Append", f.Append("a", []byte("two")))
	has(t, f, "a", "one\x00\xff\ntwo", 6)
	counted(t, f, 9, 1)
}

// P14.2: all files together have at most the quota; what is refused makes no file.
func TestQuota(t *testing.T) {
	f := some(t, 5)
	stays(t, f, "six bytes of five", api.ErrFull, func() api.Errno { return f.Append("a", []byte("abcdef")) })
	gone(t, f, "a")
	ok(t, "Append", f.Append("a", []byte("abc")))
	stays(t, f, "three bytes of two", api.ErrFull, func() api.Errno { return f.Append("a", []byte("def")) })
	stays(t, f, "three bytes of two, new", api.ErrFull, func() api.Errno { return f.Append("b", []byte("def")) })
	stays(t, f, "a wrong name, too many bytes", api.ErrArg, func() api.Errno { return f.Append("B", []byte("def")) })
	ok(t, "all", f.Append("b", []byte("de")))
	stays(t, f, "one byte of none", api.ErrFull, func() api.Errno { return f.Append("b", []byte("f")) })
	ok(t, "nothing", f.Append("b", nil))
	ok(t, "nothing, new", f.Append("c", nil))
	if f.Used() != 5 || !slices.Equal(f.Names(), []string{"a", "b", "c"}) {
		t.Errorf("%d used, %q", f.Used(), f.Names())
	}
	counted(t, f, 5, 0)
	wide := some(t, math.MaxInt)
	ok(t, "Append", wide.Append("a", []byte("abc")))
	ok(t, "Append", wide.Append("a", make([]byte, 100000)))
	free := some(t, 0)
	ok(t, "Append", free.Append("a", make([]byte, 1<<20)))
	ok(t, "Append", free.Append("b", make([]byte, 1<<20)))
}

// P14.2: what is gone makes room: cut off, removed, renamed over, and lost in a crash.
func TestRoom(t *testing.T) {
	for what, free := range map[string]func(f *Files) api.Errno{
		"Cut":    func(f *Files) api.Errno { return f.Cut("a", 2) },
		"Remove": func(f *Files) api.Errno { return f.Remove("b") },
		"Rename": func(f *Files) api.Errno { return f.Rename("c", "b") },
		"Crash":  func(f *Files) api.Errno { f.Crash([]int{0, 2, 0}); return api.OK },
	} {
		f := some(t, 8)
		put(t, f, "a", "abcd", 2)
		put(t, f, "b", "ef", 0)
		put(t, f, "c", "gh", 2)
		stays(t, f, "one byte of none", api.ErrFull, func() api.Errno { return f.Append("d", []byte("i")) })
		ok(t, what, free(f))
		stays(t, f, "three bytes of two, behind "+what, api.ErrFull, func() api.Errno { return f.Append("d", []byte("ijk")) })
		ok(t, "two bytes of two, behind "+what, f.Append("d", []byte("ij")))
		stays(t, f, "one byte of none, behind "+what, api.ErrFull, func() api.Errno { return f.Append("d", []byte("k")) })
		if f.Used() != 8 {
			t.Errorf("%s: %d used", what, f.Used())
		}
	}
}

// P14.2: all of a file's bytes are safe, those of the others are not.
func TestSync(t *testing.T) {
	f := some(t, 0)
	put(t, f, "a", "abc", 1)
	put(t, f, "b", "def", 0)
	stays(t, f, "Sync of none", api.ErrNone, func() api.Errno { return f.Sync("c") })
	ok(t, "Sync", f.Sync("a"))
	has(t, f, "a", "abc", 3)
	has(t, f, "b", "def", 0)
	counted(t, f, 6, 2)
	ok(t, "Append of nothing", f.Append("c", nil))
	ok(t, "Sync of no bytes", f.Sync("c"))
	has(t, f, "c", "", 0)
	counted(t, f, 6, 3)
}

// P14.2: a file has another name, with what is safe of it; one that had it is gone; of one name nothing happens.
func TestRename(t *testing.T) {
	f := some(t, 0)
	put(t, f, "a", "abcd", 3)
	put(t, f, "b", "xy", 2)
	stays(t, f, "Rename of none", api.ErrNone, func() api.Errno { return f.Rename("c", "a") })
	stays(t, f, "Rename of none to itself", api.ErrNone, func() api.Errno { return f.Rename("c", "c") })
	stays(t, f, "Rename to itself", api.OK, func() api.Errno { return f.Rename("a", "a") })
	ok(t, "Rename", f.Rename("a", "c"))
	gone(t, f, "a")
	has(t, f, "c", "abcd", 3)
	has(t, f, "b", "xy", 2)
	ok(t, "Rename over", f.Rename("c", "b"))
	gone(t, f, "c")
	has(t, f, "b", "abcd", 3)
	if f.Used() != 4 || len(f.Names()) != 1 {
		t.Errorf("%d used, %q", f.Used(), f.Names())
	}
	ok(t, "Append", f.Append("c", []byte("new")))
	has(t, f, "c", "new", 0)
	ok(t, "Rename over", f.Rename("c", "b"))
	has(t, f, "b", "new", 0)
	counted(t, f, 9, 2)
}

// P14.2: what is removed is gone; a new file of its name has nothing of it.
func TestRemove(t *testing.T) {
	f := some(t, 0)
	put(t, f, "a", "abcd", 3)
	put(t, f, "b", "xy", 1)
	stays(t, f, "Remove of none", api.ErrNone, func() api.Errno { return f.Remove("c") })
	ok(t, "Remove", f.Remove("a"))
	gone(t, f, "a")
	has(t, f, "b", "xy", 1)
	stays(t, f, "Remove again", api.ErrNone, func() api.Errno { return f.Remove("a") })
	stays(t, f, "Sync of what is gone", api.ErrNone, func() api.Errno { return f.Sync("a") })
	stays(t, f, "Cut of what is gone", api.ErrNone, func() api.Errno { return f.Cut("a", 0) })
	ok(t, "Append", f.Append("a", []byte("e")))
	has(t, f, "a", "e", 0)
	ok(t, "Remove", f.Remove("a"))
	ok(t, "Remove", f.Remove("b"))
	if f.Used() != 0 || len(f.Names()) != 0 {
		t.Errorf("%d used, %q", f.Used(), f.Names())
	}
}

// P14.2: the first bytes alone, and at most as many safe; neither less than none, nor more than there are.
func TestCut(t *testing.T) {
	for n := range 6 {
		f := some(t, 0)
		put(t, f, "a", "abcde", 3)
		put(t, f, "b", "xyz", 3)
		for _, wrong := range append(outside(), 6, 7) {
			stays(t, f, "Cut to what it has not", api.ErrArg, func() api.Errno { return f.Cut("a", wrong) })
			stays(t, f, "Cut of none", api.ErrNone, func() api.Errno { return f.Cut("c", wrong) })
		}
		ok(t, "Cut", f.Cut("a", n))
		has(t, f, "a", "abcde"[:n], min(n, 3))
		has(t, f, "b", "xyz", 3)
		counted(t, f, 8, 2)
		stays(t, f, "Cut to what it had", api.ErrArg, func() api.Errno { return f.Cut("a", n+1) })
		ok(t, "Append", f.Append("a", []byte("VW")))
		has(t, f, "a", "abcde"[:n]+"VW", min(n, 3))
	}
}

// P14.2: the document's example: of what was appended behind a sync, one byte lasts.
func TestExample(t *testing.T) {
	f := some(t, 0)
	ok(t, "Append", f.Append("a", []byte("ab")))
	ok(t, "Sync", f.Sync("a"))
	ok(t, "Append", f.Append("a", []byte("cd")))
	f.Crash([]int{1})
	has(t, f, "a", "abc", 3)
}

// P14.2: each file's number is that of its place in the order of names: at most all, at least none, without a number none.
func TestCrash(t *testing.T) {
	for _, c := range []struct {
		last    []int
		a, b, d string
	}{
		{nil, "ab", "", "xy"}, {[]int{}, "ab", "", "xy"}, {[]int{0, 0, 0}, "ab", "", "xy"},
		{[]int{1}, "abc", "", "xy"}, {[]int{2}, "abcd", "", "xy"}, {[]int{3}, "abcd", "", "xy"}, {[]int{0, 1}, "ab", "u", "xy"},
		{[]int{0, 3, 1}, "ab", "uvw", "xy"}, {[]int{1, 2, 1}, "abc", "uv", "xy"}, {[]int{1, 2, 0, 9, -1}, "abc", "uv", "xy"},
		{[]int{-1, -1, -1}, "ab", "", "xy"}, {[]int{math.MinInt, 1, math.MinInt}, "ab", "u", "xy"},
		{[]int{math.MaxInt, math.MaxInt, math.MaxInt}, "abcd", "uvw", "xy"}, {[]int{1 << 32, -1 << 32, 1}, "abcd", "", "xy"},
	} {
		f := some(t, 0)
		// Made in another order than that of their names.
		put(t, f, "d", "xy", 2)
		put(t, f, "b", "uvw", 0)
		put(t, f, "a", "abcd", 2)
		ok(t, "Append of nothing", f.Append("c", nil))
		ok(t, "Rename", f.Rename("c", "e"))
		f.Crash(c.last)
		has(t, f, "a", c.a, len(c.a))
		has(t, f, "b", c.b, len(c.b))
		has(t, f, "d", c.d, len(c.d))
		has(t, f, "e", "", 0)
		counted(t, f, 9, 2)
		if f.Used() != len(c.a)+len(c.b)+len(c.d) {
			t.Errorf("%v: %d used", c.last, f.Used())
		}
		stays(t, f, "a second crash", api.OK, func() api.Errno { f.Crash([]int{5, 5, 5, 5, 5}); f.Crash(nil); return api.OK })
	}
}

// P14.2: renamed bytes that are not safe are told by the place of the new name; renames, removals and cuts last.
func TestCrashBehindOthers(t *testing.T) {
	f := some(t, 0)
	put(t, f, "a", "abcd", 1)
	put(t, f, "b", "uvwx", 1)
	put(t, f, "c", "1234", 4)
	ok(t, "Rename", f.Rename("a", "z"))
	ok(t, "Remove", f.Remove("c"))
	ok(t, "Cut", f.Cut("z", 3))
	ok(t, "Append", f.Append("c", []byte("56")))
	f.Crash([]int{3, 1, 1})
	gone(t, f, "a")
	has(t, f, "b", "uvwx", 4)
	has(t, f, "c", "5", 1)
	has(t, f, "z", "ab", 2)
	ok(t, "Append", f.Append("z", []byte("new")))
	ok(t, "Cut to what was lost", f.Cut("z", 4))
	ok(t, "Cut below what is safe", f.Cut("b", 2))
	ok(t, "Append", f.Append("b", []byte("new")))
	f.Crash([]int{1})
	has(t, f, "b", "uvn", 3)
	has(t, f, "z", "ab", 2)
}

// Rules 4 and 5: what is handed in is neither changed nor kept, what lies behind it is not read; what is handed out is new memory, without anything behind it.
func TestMemory(t *testing.T) {
	f := some(t, 0)
	in := []byte("abcdef")
	ok(t, "Append", f.Append("a", in[:3]))
	ok(t, "Append", f.Append("b", in[3:3]))
	ok(t, "Append", f.Append("b", in[1:2]))
	if string(in) != "abcdef" {
		t.Errorf("handed in, and now %q", in)
	}
	clear(in)
	for range 2 {
		has(t, f, "a", "abc", 0)
		has(t, f, "b", "b", 0)
		b, _ := f.Read("a")
		names := f.Names()
		if cap(b) != len(b) || cap(names) != len(names) {
			t.Errorf("there is room behind: %d of %d, %d of %d", len(b), cap(b), len(names), cap(names))
		}
		clear(b)
		clear(names)
	}
	b, _ := f.Read("a")
	ok(t, "Cut", f.Cut("a", 1))
	ok(t, "Append", f.Append("a", []byte("XY")))
	if string(b) != "abc" || !slices.Equal(f.Names(), []string{"a", "b"}) {
		t.Errorf("handed out: %q, %q", b, f.Names())
	}
	last := []int{-5, 1 << 40, 7}
	f.Crash(last)
	if !slices.Equal(last, []int{-5, 1 << 40, 7}) {
		t.Errorf("handed in, and now %v", last)
	}
}

// Rule 7: two that were made are on their own.
func TestTwo(t *testing.T) {
	one, two := some(t, 3), some(t, 3)
	put(t, one, "a", "abc", 1)
	gone(t, two, "a")
	put(t, two, "a", "x", 0)
	has(t, one, "a", "abc", 1)
	counted(t, one, 3, 1)
	counted(t, two, 1, 0)
}

// Ways: the counts may be asked while another goroutine works: they never go down, and at last all is counted.
func TestCountsTogether(t *testing.T) {
	f := some(t, 0)
	var g sync.WaitGroup
	g.Go(func() {
		for range 1000 {
			f.Append("a", []byte("ab"))
			f.Sync("a")
		}
	})
	g.Go(func() {
		was, wasSyncs := uint64(0), uint64(0)
		for range 1000 {
			a, s := f.Counts()
			if a < was || s < wasSyncs {
				t.Errorf("counts went down: %d, %d behind %d, %d", a, s, was, wasSyncs)
			}
			was, wasSyncs = a, s
		}
	})
	g.Wait()
	counted(t, f, 2000, 1000)
}
