package log

import (
	"slices"
	"strings"
	"testing"

	"maund/api"
	"maund/files"
)

// refused wants Open to tell an error, and nothing else, and to change nothing.
func refused(t *testing.T, f *files.Files, name string, want api.Errno) {
	t.Helper()
	stays(t, f, "Open of "+name, func() {
		if l, records, e := Open(f, name); l != nil || len(records) != 0 || e != want {
			t.Errorf("Open of %.30q: %v, %q, %v, want %v", name, l, records, e, want)
		}
	})
}

// P16.1: of no files ErrNil, whatever the name is.
func TestOpenNoFiles(t *testing.T) {
	for _, f := range []*files.Files{nil, new(files.Files)} {
		for _, name := range append(wrongNames(), name, "a") {
			refused(t, f, name, api.ErrNil)
		}
	}
}

// P16.1: if there is no such file, a log without records, and nothing is written; ErrArg, if no file may have the name.
func TestOpenNew(t *testing.T) {
	f := some(t, 0)
	lay(t, f, "other", "no frames", true)
	lay(t, f, "log-000001", framed(t, "a", "b"), false)
	for _, name := range []string{"a", "-", ".", "0", name, "log-00000", "log-0000010", "othe", "others", strings.Repeat("z", 20)} {
		stays(t, f, "Open", func() {
			l := open(t, f, name)
			knows(t, l, name, 0, 0)
			open(t, f, name)
		})
	}
	for _, name := range wrongNames() {
		refused(t, f, name, api.ErrArg)
	}
	full := some(t, 1)
	lay(t, full, "a", "x", true)
	stays(t, full, "Open among files that are full", func() { open(t, full, name) })
	refused(t, full, "A", api.ErrArg)
}

// P16.1: a log has the records that stand on its file, and is sure of them: the file is synced.
func TestOpen(t *testing.T) {
	long := strings.Repeat("x", 20000)
	for _, records := range [][]string{nil, {"a"}, {"a", "a"}, {"b", long, "\x00"}, {"\x01\x01a\x43\xbe\xb7\xe8", "c"}} {
		for _, safe := range []bool{false, true} {
			f := some(t, 0)
			b := framed(t, records...)
			lay(t, f, name, b, safe)
			lay(t, f, "other", "x", false)
			_, before := f.Counts()
			open(t, f, name, records...)
			got, _ := f.Read(name)
			appended, syncs := f.Counts()
			if string(got) != b || f.Safe(name) != len(b) || f.Safe("other") != 0 || appended != uint64(len(b))+1 || syncs != before+1 {
				t.Errorf("%d records: %.80q, %d safe, %d of the other one, counts %d, %d", len(records), got, f.Safe(name), f.Safe("other"), appended, syncs)
			}
		}
	}
}

// P16.1: what stands from the tail on is cut off, be it safe or not, where bytes are missing alone.
func TestOpenTorn(t *testing.T) {
	for _, tail := range []string{"\x01", "\x02\x00", "\x01\x01", "\x01\x01a", "\x01\x01a\x00\x00\x00", "\x02\x4e\x20abc", "\x08\xff\xff"} {
		for _, ahead := range [][]string{nil, {"a"}, {"a", "bc", "d"}} {
			for _, safe := range []bool{false, true} {
				f := some(t, 0)
				b := framed(t, ahead...)
				lay(t, f, name, b+tail, safe)
				l := open(t, f, name, ahead...)
				if got, e := f.Read(name); string(got) != b || e != api.OK || f.Safe(name) != len(b) {
					t.Errorf("%q behind %q: %q, %v, %d safe", tail, ahead, got, e, f.Safe(name))
				}
				add(t, l, "behind")
				open(t, f, name, append(slices.Clone(ahead), "behind")...)
			}
		}
	}
}

// P16.1: the error of what stands there, and nothing is cut off, or synced.
func TestOpenSpoilt(t *testing.T) {
	for tail, want := range map[string]api.Errno{
		"\x00": api.ErrForm, "\x09": api.ErrForm, "\x01\x00": api.ErrForm, "\x02\x4e\x21": api.ErrForm, "\x00" + framed(t, "a"): api.ErrForm,
		"\x01\x01a\x00\x00\x00\x00": api.ErrSum, "\x01\x01b\x43\xbe\xb7\xe8" + framed(t, "a"): api.ErrSum,
	} {
		for _, safe := range []bool{false, true} {
			f := some(t, 0)
			lay(t, f, name, framed(t, "a", "bc")+tail, safe)
			refused(t, f, name, want)
		}
	}
}

// P16.1: of nil, or of one that no call made: ErrNil, 0, an empty text.
func TestNoLog(t *testing.T) {
	for _, l := range noLogs() {
		for range 2 {
			for _, b := range append(wrongRecords(), []byte("a")) {
				if n, e := l.Append(b); n != 0 || e != api.ErrNil {
					t.Errorf("Append: %d, %v", n, e)
				}
			}
			if e := l.Sync(); e != api.ErrNil {
				t.Errorf("Sync: %v", e)
			}
			knows(t, l, "", 0, 0)
		}
	}
}

// P16.2: a record's frame stands behind the others; it is sure of them when it is told to sync, and not ahead.
func TestAppend(t *testing.T) {
	f := some(t, 0)
	lay(t, f, name, framed(t, "a", "b"), false)
	l := open(t, f, name, "a", "b")
	records := []string{"a", "b"}
	for i, record := range []string{"c", "c", strings.Repeat("d", 20000), "\x00", "e"} {
		add(t, l, record)
		records = append(records, record)
		sure := 2 + i - i%2
		knows(t, l, name, len(records), sure)
		if got, _ := f.Read(name); string(got) != framed(t, records...) || f.Safe(name) != len(framed(t, records[:sure]...)) {
			t.Fatalf("%d records: %.80q, %d safe", len(records), got, f.Safe(name))
		}
		if i%2 == 0 {
			continue
		}
		ok(t, "Sync", l.Sync())
		knows(t, l, name, len(records), len(records))
		if f.Safe(name) != len(framed(t, records...)) {
			t.Fatalf("%d records, synced: %d safe", len(records), f.Safe(name))
		}
	}
	open(t, f, name, records...)
}

// P16.2: ErrForm ahead of ErrFull, and neither changes anything; with room there is, it goes on.
func TestAppendRefused(t *testing.T) {
	f := some(t, 20)
	l := open(t, f, name)
	refuses := func(b []byte, want api.Errno) {
		t.Helper()
		all, sure := l.All(), l.Sure()
		stays(t, f, "Append", func() {
			if n, e := l.Append(b); n != 0 || e != want {
				t.Errorf("Append of %.30q: %d, %v, want %v", b, n, e, want)
			}
		})
		knows(t, l, name, all, sure)
	}
	for _, b := range wrongRecords() {
		refuses(b, api.ErrForm)
	}
	refuses(make([]byte, 15), api.ErrFull)
	refuses(make([]byte, 20000), api.ErrFull)
	add(t, l, "abcd")
	ok(t, "Sync", l.Sync())
	refuses(make([]byte, 5), api.ErrFull)
	add(t, l, "efgh")
	knows(t, l, name, 2, 1)
	refuses([]byte("i"), api.ErrFull)
	for _, b := range wrongRecords() {
		refuses(b, api.ErrForm)
	}
	ok(t, "Sync", l.Sync())
	knows(t, l, name, 2, 2)
	open(t, f, name, "abcd", "efgh")
	shared := some(t, 20)
	lay(t, shared, "other", "0123456789", false)
	l, f = open(t, shared, name), shared
	refuses([]byte("abcde"), api.ErrFull)
	ok(t, "Remove", shared.Remove("other"))
	add(t, l, "abcde")
	open(t, shared, name, "abcde")
}

// P16.2: a Sync without such a file writes nothing; it is sure of all.
func TestSync(t *testing.T) {
	f := some(t, 0)
	lay(t, f, "other", "x", false)
	l := open(t, f, name)
	stays(t, f, "Sync without a file", func() { ok(t, "Sync", l.Sync()) })
	knows(t, l, name, 0, 0)
	add(t, l, "a", "b")
	ok(t, "Sync", l.Sync())
	if _, syncs := f.Counts(); syncs != 1 || f.Safe("other") != 0 {
		t.Errorf("%d syncs, %d safe of the other one", syncs, f.Safe("other"))
	}
	ok(t, "Sync again", l.Sync())
	if _, syncs := f.Counts(); syncs != 2 {
		t.Errorf("%d syncs", syncs)
	}
	knows(t, l, name, 2, 2)
	add(t, l, "c")
	ok(t, "Remove", f.Remove(name))
	stays(t, f, "Sync of a file that is gone", func() { ok(t, "Sync", l.Sync()) })
	knows(t, l, name, 3, 3)
	add(t, l, "d")
	knows(t, l, name, 4, 3)
	open(t, f, name, "d")
}

// P16.1, P16.2: logs of other names do not touch each other, and each knows of itself alone.
func TestTwoLogs(t *testing.T) {
	f := some(t, 0)
	one, two := open(t, f, "a"), open(t, f, "b")
	add(t, one, "1", "2")
	add(t, two, "3")
	ok(t, "Sync", one.Sync())
	knows(t, one, "a", 2, 2)
	knows(t, two, "b", 1, 0)
	f.Crash(nil)
	open(t, f, "a", "1", "2")
	open(t, f, "b")
}

// The whole's rule 5: a record that is handed in is neither changed nor kept, and those that are handed out are new memory.
func TestMemory(t *testing.T) {
	f := some(t, 0)
	l := open(t, f, name)
	b := []byte("abcdef")
	if _, e := l.Append(b[:3]); e != api.OK || string(b) != "abcdef" {
		t.Errorf("Append: %v, of %q", e, b)
	}
	clear(b)
	add(t, l, "de")
	_, records, e := Open(f, name)
	ok(t, "Open", e)
	for i, record := range records {
		clear(record)
		_ = append(record, 9, 9, 9)
		if i == 0 && string(records[1]) != "de" {
			t.Errorf("records share memory: %q", records)
		}
	}
	open(t, f, name, "abc", "de")
}
