package files

import (
	"maps"
	"math/rand"
	"slices"
	"strings"
	"testing"

	"maund/api"
)

// cell is a byte, and whether it is safe.
type cell struct {
	b    byte
	safe bool
}

// plain is files told byte by byte: what they must be.
type plain struct {
	quota           int
	all             map[string][]cell
	appended, syncs uint64
}

// shot is all that one may ask of them.
func (p *plain) shot() shot {
	s := shot{names: slices.Sorted(maps.Keys(p.all)), appended: p.appended, syncs: p.syncs}
	for _, name := range s.names {
		var b []byte
		safe := 0
		for _, c := range p.all[name] {
			b = append(b, c.b)
			if c.safe {
				safe++
			}
		}
		s.bytes, s.safe, s.used = append(s.bytes, string(b)), append(s.safe, safe), s.used+len(b)
	}
	return s
}

// right tells whether a name may be.
func (p *plain) right(name string) bool {
	return name != "" && len(name) <= 20 && strings.Trim(name, "abcdefghijklmnopqrstuvwxyz0123456789-.") == ""
}

// add is Append.
func (p *plain) add(name string, b []byte) api.Errno {
	if !p.right(name) {
		return api.ErrArg
	}
	if p.quota != 0 && p.shot().used+len(b) > p.quota {
		return api.ErrFull
	}
	l := slices.Clone(p.all[name])
	for _, x := range b {
		l = append(l, cell{b: x})
		p.appended++
	}
	p.all[name] = l
	return api.OK
}

// sync is Sync.
func (p *plain) sync(name string) api.Errno {
	l, there := p.all[name]
	if !there {
		return api.ErrNone
	}
	for i := range l {
		l[i].safe = true
	}
	p.syncs++
	return api.OK
}

// rename is Rename.
func (p *plain) rename(from, to string) api.Errno {
	l, there := p.all[from]
	if !there {
		return api.ErrNone
	}
	if !p.right(to) {
		return api.ErrArg
	}
	if from != to {
		p.all[to] = l
		delete(p.all, from)
	}
	return api.OK
}

// remove is Remove.
func (p *plain) remove(name string) api.Errno {
	if _, there := p.all[name]; !there {
		return api.ErrNone
	}
	delete(p.all, name)
	return api.OK
}

// cut is Cut.
func (p *plain) cut(name string, n int) api.Errno {
	l, there := p.all[name]
	if !there {
		return api.ErrNone
	}
	if n < 0 || n > len(l) {
		return api.ErrArg
	}
	p.all[name] = slices.Clone(l[:n])
	return api.OK
}

// crash is Crash: each byte stays that is safe, or is of the first ones that last.
func (p *plain) crash(last []int) {
	for i, name := range slices.Sorted(maps.Keys(p.all)) {
		var stays []cell
		for _, c := range p.all[name] {
			if !c.safe && (i >= len(last) || last[i] <= 0) {
				break
			}
			if !c.safe {
				last[i]--
			}
			stays = append(stays, cell{b: c.b, safe: true})
		}
		p.all[name] = stays
	}
}

// nameOf is a name: one of few, so that calls meet the same files, or one that may not be.
func nameOf(r *rand.Rand) string {
	l := []string{"a", "b", "log-000000", "log-000001", "snap.tmp", "-", "", "B", "aaaaaaaaaaaaaaaaaaaaa"}
	return l[min(r.Intn(len(l)+6), r.Intn(len(l)))]
}

// bytesOf is up to seven bytes.
func bytesOf(r *rand.Rand) []byte {
	b := make([]byte, r.Intn(8))
	r.Read(b)
	return b
}

// lastOf is up to six numbers, some of them edges.
func lastOf(r *rand.Rand) []int {
	last := make([]int, r.Intn(7))
	for i := range last {
		last[i] = r.Intn(8) - 1
		if r.Intn(9) == 0 {
			last[i] = outside()[r.Intn(len(outside()))]
		}
	}
	return last
}

// step does one of all calls to both, and tells what both told.
func step(r *rand.Rand, f *Files, p *plain) (string, api.Errno, api.Errno) {
	name := nameOf(r)
	switch r.Intn(12) {
	case 0, 1, 2, 3, 4:
		b := bytesOf(r)
		return "Append", f.Append(name, b), p.add(name, b)
	case 5, 6:
		return "Sync", f.Sync(name), p.sync(name)
	case 7, 8:
		to := nameOf(r)
		return "Rename", f.Rename(name, to), p.rename(name, to)
	case 9:
		return "Remove", f.Remove(name), p.remove(name)
	case 10:
		n := r.Intn(20) - 2
		return "Cut", f.Cut(name, n), p.cut(name, n)
	}
	last := lastOf(r)
	f.Crash(slices.Clone(last))
	p.crash(last)
	return "Crash", api.OK, api.OK
}

// P14.1, P14.2: whatever is done in whatever order, files are as told byte by byte.
func TestModel(t *testing.T) {
	for seed := range 400 {
		r := rand.New(rand.NewSource(int64(seed)))
		quota := []int{0, 1, 10, 30}[seed%4]
		f, p := some(t, quota), &plain{quota: quota, all: map[string][]cell{}}
		for i := range 200 {
			what, got, want := step(r, f, p)
			if got != want {
				t.Fatalf("seed %d, step %d, %s: %v, want %v", seed, i, what, got, want)
			}
			if got, want := shotOf(t, f), p.shot(); !got.same(want) {
				t.Fatalf("seed %d, step %d, %s: %v, want %v", seed, i, what, got, want)
			}
		}
	}
}

// P14.3: behind a crash each file has its safe beginning at least, and a beginning of what it had, all safe; a second one changes nothing.
func TestBehindCrash(t *testing.T) {
	for seed := range 400 {
		r := rand.New(rand.NewSource(int64(seed)))
		f, p := some(t, 0), &plain{all: map[string][]cell{}}
		for range 1 + r.Intn(60) {
			step(r, f, p)
		}
		before := shotOf(t, f)
		f.Crash(lastOf(r))
		behind := shotOf(t, f)
		if !slices.Equal(behind.names, before.names) {
			t.Fatalf("seed %d: %q, and had %q", seed, behind.names, before.names)
		}
		for i, b := range behind.bytes {
			if !strings.HasPrefix(before.bytes[i], b) || len(b) < before.safe[i] || behind.safe[i] != len(b) {
				t.Fatalf("seed %d, %q: %q, %d safe, and had %q, %d safe", seed, behind.names[i], b, behind.safe[i], before.bytes[i], before.safe[i])
			}
		}
		stays(t, f, "a second crash", api.OK, func() api.Errno { f.Crash(lastOf(r)); return api.OK })
	}
}
