package files

import (
	"fmt"
	"math"
	"slices"
	"strings"
	"testing"

	"maund/api"
)

// some is files with a quota.
func some(t *testing.T, quota int) *Files {
	t.Helper()
	f, e := New(quota)
	if e != api.OK || f == nil {
		t.Fatalf("New(%d): %v, %v", quota, f, e)
	}
	return f
}

// noFiles are such as no call made.
func noFiles() []*Files { return []*Files{nil, new(Files)} }

// rightNames are names that may be.
func rightNames() []string {
	return []string{"a", "z", "0", "9", "-", ".", "..", "-.-", "log-000000", "snap.tmp", "snap-000007", strings.Repeat("a", 20), "abcdefghijklmnopqrst", "uvwxyz0123456789-."}
}

// wrongNames are such as may not be.
func wrongNames() []string {
	return []string{
		"", "A", "Z", "Log", "log_1", "log 1", " a", "a ", "a\n", "a\x00", "\x00", "a/b", "a\\b", "a:b", "a,b", "a+b", "`", "{", "@", "[",
		"é", "ａ", "–", "․", "…", "\u00ad", "\xff", "a\xff", "\xad", "\xae", "\xe1", "\xb0",
		strings.Repeat("a", 21), strings.Repeat(".", 21), strings.Repeat("a", 20) + "A", strings.Repeat("a", 256), strings.Repeat("a", 276), strings.Repeat("a", 1<<20),
	}
}

// outside are numbers below 0, and far beyond what there is.
func outside() []int {
	return []int{-1, -2, -20, math.MinInt, math.MinInt + 1, math.MaxInt, math.MaxInt - 1, 1 << 32, 1<<32 + 1}
}

// put lets a file have bytes, of which the first safe ones are safe.
func put(t *testing.T, f *Files, name, b string, safe int) {
	t.Helper()
	ok(t, "Append", f.Append(name, []byte(b[:safe])))
	if safe > 0 {
		ok(t, "Sync", f.Sync(name))
	}
	ok(t, "Append", f.Append(name, []byte(b[safe:])))
}

// ok wants no error.
func ok(t *testing.T, what string, e api.Errno) {
	t.Helper()
	if e != api.OK {
		t.Fatalf("%s: %v", what, e)
	}
}

// has wants a file to have bytes, of which the first safe ones are safe.
func has(t *testing.T, f *Files, name, want string, safe int) {
	t.Helper()
	b, e := f.Read(name)
	if string(b) != want || e != api.OK || f.Safe(name) != safe {
		t.Errorf("%q has %q, %v, %d safe, want %q, %d safe", name, b, e, f.Safe(name), want, safe)
	}
}

// gone wants no file of a name.
func gone(t *testing.T, f *Files, name string) {
	t.Helper()
	b, e := f.Read(name)
	if len(b) != 0 || e != api.ErrNone || f.Safe(name) != 0 || slices.Contains(f.Names(), name) {
		t.Errorf("%q has %q, %v, %d safe, among %q", name, b, e, f.Safe(name), f.Names())
	}
}

// counted wants as many bytes appended, and syncs.
func counted(t *testing.T, f *Files, appended, syncs uint64) {
	t.Helper()
	if a, s := f.Counts(); a != appended || s != syncs {
		t.Errorf("counts: %d, %d, want %d, %d", a, s, appended, syncs)
	}
}

// shot is all that one may ask of files.
type shot struct {
	names           []string
	bytes           []string
	safe            []int
	used            int
	appended, syncs uint64
}

// String tells it.
func (s shot) String() string {
	return fmt.Sprintf("%q with %q, %v safe, %d used, counts %d %d", s.names, s.bytes, s.safe, s.used, s.appended, s.syncs)
}

// shotOf asks for it.
func shotOf(t *testing.T, f *Files) shot {
	t.Helper()
	s := shot{names: f.Names(), used: f.Used()}
	s.appended, s.syncs = f.Counts()
	for _, name := range s.names {
		b, e := f.Read(name)
		if e != api.OK {
			t.Fatalf("Read(%q): %v", name, e)
		}
		s.bytes = append(s.bytes, string(b))
		s.safe = append(s.safe, f.Safe(name))
	}
	return s
}

// same tells whether two are equal.
func (s shot) same(o shot) bool {
	return slices.Equal(s.names, o.names) && slices.Equal(s.bytes, o.bytes) && slices.Equal(s.safe, o.safe) &&
		s.used == o.used && s.appended == o.appended && s.syncs == o.syncs
}

// stays wants a call to be refused, and nothing to have changed.
func stays(t *testing.T, f *Files, what string, want api.Errno, call func() api.Errno) {
	t.Helper()
	before := shotOf(t, f)
	if e := call(); e != want {
		t.Errorf("%s: %v, want %v", what, e, want)
	}
	if behind := shotOf(t, f); !behind.same(before) {
		t.Errorf("%s changed %v to %v", what, before, behind)
	}
}
