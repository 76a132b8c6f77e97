package log

import (
	"math/rand"
	"slices"
	"strings"
	"testing"

	"maund/api"
	"maund/files"
)

// P16.3: the example: what was synced is there.
func TestCrash(t *testing.T) {
	f := some(t, 0)
	l := open(t, f, name)
	add(t, l, "abc")
	ok(t, "Sync", l.Sync())
	f.Crash(nil)
	open(t, f, name, "abc")
}

// P16.3: of as many records as were synced, or none, and of as many bytes more as lasted, the records are the whole ones of the first ones.
func TestCrashAtEachByte(t *testing.T) {
	records := []string{"a", strings.Repeat("b", 300), "\x01\x01a\x43\xbe\xb7\xe8", "\x00", strings.Repeat("c", 255)}
	for sure := range len(records) + 1 {
		safe := len(framed(t, records[:sure]...))
		for last := range len(framed(t, records[sure:]...)) + 2 {
			f := some(t, 0)
			l := open(t, f, name)
			add(t, l, records[:sure]...)
			ok(t, "Sync", l.Sync())
			add(t, l, records[sure:]...)
			knows(t, l, name, len(records), sure)
			f.Crash([]int{last})
			left := sure
			for left < len(records) && len(framed(t, records[:left+1]...)) <= safe+last {
				left++
			}
			l = open(t, f, name, records[:left]...)
			f.Crash(nil)
			open(t, f, name, records[:left]...)
			add(t, l, "more")
			open(t, f, name, append(slices.Clone(records[:left]), "more")...)
		}
	}
}

// world is files with some logs, and what these must have.
type world struct {
	f     *files.Files
	names []string
	logs  []*Log
	all   [][]string
	sure  []int
}

// begin is one with three logs, of files that are not there yet.
func begin(t *testing.T, quota int) *world {
	t.Helper()
	w := &world{f: some(t, quota), names: []string{"a", "log-000000", "z.log"}}
	for _, name := range w.names {
		w.logs = append(w.logs, open(t, w.f, name))
	}
	w.all, w.sure = make([][]string, len(w.names)), make([]int, len(w.names))
	return w
}

// append does Append to a log.
func (w *world) append(t *testing.T, r *rand.Rand, i int) {
	t.Helper()
	b := make([]byte, r.Intn(6))
	if r.Intn(20) == 0 {
		b = make([]byte, []int{255, 256, 300, 20000, 20001}[r.Intn(5)])
	}
	r.Read(b)
	used := w.f.Used()
	n, e := w.logs[i].Append(b)
	if len(b) == 0 || len(b) > 20000 {
		if n != 0 || e != api.ErrForm {
			t.Fatalf("Append of %d bytes: %d, %v", len(b), n, e)
		}
		return
	}
	if e == api.ErrFull {
		if n != 0 || w.f.Used() != used || used+len(framed(t, string(b))) <= 5000 {
			t.Fatalf("Append: %d, %v, used %d, and then %d", n, e, used, w.f.Used())
		}
		return
	}
	w.all[i] = append(w.all[i], string(b))
	if n != len(w.all[i]) || e != api.OK || w.f.Used() != used+len(framed(t, string(b))) {
		t.Fatalf("Append: %d, %v, used %d, and then %d", n, e, used, w.f.Used())
	}
}

// crash lets the files crash, and opens all logs again: each has a beginning, and at least what it was sure of.
func (w *world) crash(t *testing.T, r *rand.Rand) {
	t.Helper()
	last := make([]int, r.Intn(4))
	for i := range last {
		last[i] = r.Intn(60) - 1
	}
	w.f.Crash(last)
	for i, name := range w.names {
		l, records, e := Open(w.f, name)
		ok(t, "Open", e)
		got := texts(records)
		if len(got) < w.sure[i] || len(got) > len(w.all[i]) || !slices.Equal(got, w.all[i][:len(got)]) {
			t.Fatalf("%s has %.200q, of %.200q, and was sure of %d", name, got, w.all[i], w.sure[i])
		}
		w.logs[i], w.all[i], w.sure[i] = l, got, len(got)
	}
}

// P16.1 to P16.3: whatever is done in whatever order, logs know what they must, and have it behind a crash.
func TestAnyOrder(t *testing.T) {
	for seed := range 300 {
		r := rand.New(rand.NewSource(int64(seed)))
		w := begin(t, []int{0, 5000}[seed%2])
		for range 100 {
			i := r.Intn(len(w.logs))
			switch r.Intn(12) {
			case 0, 1:
				ok(t, "Sync", w.logs[i].Sync())
				w.sure[i] = len(w.all[i])
			case 2:
				w.crash(t, r)
			case 3:
				w.logs[i] = open(t, w.f, w.names[i], w.all[i]...)
				w.sure[i] = len(w.all[i])
			default:
				w.append(t, r, i)
			}
			for i, l := range w.logs {
				knows(t, l, w.names[i], len(w.all[i]), w.sure[i])
			}
		}
	}
}
