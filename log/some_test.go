package log

import (
	"bytes"
	"fmt"
	"slices"
	"strings"
	"testing"

	"maund/api"
	"maund/files"
	"maund/frame"
)

// name is the name of most logs.
const name = "log-000000"

// some is files with a quota.
func some(t *testing.T, quota int) *files.Files {
	t.Helper()
	f, e := files.New(quota)
	ok(t, "New", e)
	return f
}

// ok wants no error.
func ok(t *testing.T, what string, e api.Errno) {
	t.Helper()
	if e != api.OK {
		t.Fatalf("%s: %v", what, e)
	}
}

// open is a file's log, which has just these records, and is sure of them.
func open(t *testing.T, f *files.Files, name string, want ...string) *Log {
	t.Helper()
	l, records, e := Open(f, name)
	ok(t, "Open of "+name, e)
	if got := texts(records); !slices.Equal(got, want) || len(records) != cap(records) {
		t.Fatalf("Open of %s: %.80q, room for %d, want %.80q", name, got, cap(records), want)
	}
	knows(t, l, name, len(want), len(want))
	return l
}

// knows wants a log's name, how many records it has, and of how many it is sure.
func knows(t *testing.T, l *Log, name string, all, sure int) {
	t.Helper()
	if l.Name() != name || l.All() != all || l.Sure() != sure {
		t.Fatalf("%q has %d, sure of %d, want %q with %d, sure of %d", l.Name(), l.All(), l.Sure(), name, all, sure)
	}
}

// add puts records behind the others, each counted.
func add(t *testing.T, l *Log, records ...string) {
	t.Helper()
	for _, record := range records {
		before := l.All()
		n, e := l.Append([]byte(record))
		ok(t, "Append", e)
		if n != before+1 || l.All() != n {
			t.Fatalf("Append behind %d: %d, %d", before, n, l.All())
		}
	}
}

// lay puts bytes behind a file's, and syncs it, if it is to be safe.
func lay(t *testing.T, f *files.Files, name, b string, safe bool) {
	t.Helper()
	ok(t, "lay", f.Append(name, []byte(b)))
	if safe {
		ok(t, "lay", f.Sync(name))
	}
}

// framed is the frames of records, one behind the other.
func framed(t *testing.T, records ...string) string {
	t.Helper()
	var all []byte
	for _, record := range records {
		b, e := frame.Write([]byte(record))
		ok(t, "Write", e)
		all = append(all, b...)
	}
	return string(all)
}

// texts is records as texts.
func texts(records [][]byte) []string {
	var l []string
	for _, record := range records {
		l = append(l, string(record))
	}
	return l
}

// noLogs are such as no call made.
func noLogs() []*Log { return []*Log{nil, new(Log)} }

// wrongNames may not be a file's.
func wrongNames() []string {
	return []string{"", "A", "Log", "log_0", "a b", " a", "a/b", "a\x00", "\xff", "é", strings.Repeat("a", 21), strings.Repeat("a", 1<<16)}
}

// wrongRecords may not be records.
func wrongRecords() [][]byte {
	return [][]byte{nil, {}, []byte("abc")[:0], make([]byte, 20001), bytes.Repeat([]byte("a"), 40000)}
}

// shot is all that one may ask of files.
func shot(t *testing.T, f *files.Files) string {
	t.Helper()
	appended, syncs := f.Counts()
	l := []string{fmt.Sprint(f.Used(), appended, syncs)}
	for _, name := range f.Names() {
		b, e := f.Read(name)
		ok(t, "Read", e)
		l = append(l, fmt.Sprintf("%s: %q, %d safe", name, b, f.Safe(name)))
	}
	return strings.Join(l, "\n")
}

// stays wants files as they are, whatever is called.
func stays(t *testing.T, f *files.Files, what string, call func()) {
	t.Helper()
	before := shot(t, f)
	call()
	if behind := shot(t, f); behind != before {
		t.Errorf("%.40q changed\n%.500s\nto\n%.500s", what, before, behind)
	}
}
