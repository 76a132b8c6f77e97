package frame

import (
	"bytes"
	"math/rand"
	"slices"
	"testing"

	"maund/api"
)

// P15.1: how many, as a number, the bytes, and their sum, the lowest byte first.
func TestWrite(t *testing.T) {
	for text, want := range map[string]string{
		"123456789": "\x01\x09123456789\x26\x39\xf4\xcb", "a": "\x01\x01a\x43\xbe\xb7\xe8", "\x00": "\x01\x01\x00\x8d\xef\x02\xd2", "abc": "\x01\x03abc\xc2\x41\x24\x35",
	} {
		if got, e := Write([]byte(text)); string(got) != want || e != api.OK {
			t.Errorf("Write(%q): %x, %v, want %x", text, got, e, want)
		}
	}
	for n, head := range map[int]string{1: "\x01\x01", 255: "\x01\xff", 256: "\x02\x01\x00", 300: "\x02\x01\x2c", 19999: "\x02\x4e\x1f", 20000: "\x02\x4e\x20"} {
		record := long(n)
		want := append(append([]byte(head), record...), sumOf(record)...)
		if got, e := Write(record); !bytes.Equal(got, want) || e != api.OK {
			t.Errorf("Write of %d bytes: %.40x, %v, want %.40x", n, got, e, want)
		}
	}
}

// P15.1: what may not be a record.
func TestWriteWrong(t *testing.T) {
	for _, b := range [][]byte{nil, {}, long(3)[:0], make([]byte, 20001), long(20001), make([]byte, 1<<20)} {
		if got, e := Write(b); len(got) != 0 || e != api.ErrForm {
			t.Errorf("Write of %d bytes: %.40x, %v", len(b), got, e)
		}
	}
}

// P15.2: whole frames are read, in order, and the tail is empty.
func TestRead(t *testing.T) {
	for _, b := range [][]byte{nil, {}} {
		wants(t, "nothing", b, told{})
	}
	for _, record := range some() {
		b := framed(t, record)
		wants(t, "one", b, told{[][]byte{record}, len(b), api.OK})
	}
	all := framed(t, some()...)
	wants(t, "all", all, told{some(), len(all), api.OK})
	twice := framed(t, []byte("a"), []byte("a"))
	wants(t, "one twice", twice, told{[][]byte{[]byte("a"), []byte("a")}, len(twice), api.OK})
	many := bytes.Repeat(framed(t, []byte("x")), 1<<16)
	if got := read(many); len(got.records) != 1<<16 || got.tail != len(many) || got.e != api.OK {
		t.Errorf("many: %d records, %d, %v", len(got.records), got.tail, got.e)
	}
}

// tails are tails, and what Read tells of each.
func tails() []struct {
	b    string
	want api.Errno
} {
	more := string(make([]byte, 30000))
	return []struct {
		b    string
		want api.Errno
	}{
		// Nothing, or bytes are missing of the number, whatever stands there of it.
		{"", api.OK}, {"\x01", api.OK}, {"\x02", api.OK}, {"\x02\x01", api.OK}, {"\x02\x00", api.OK}, {"\x02\xff", api.OK}, {"\x03\x00\x00", api.OK},
		{"\x08", api.OK}, {"\x08\x00", api.OK}, {"\x08\xff\xff\xff\xff\xff\xff\xff", api.OK}, {"\x08\x00\x00\x00\x00\x00\x00\x00", api.OK},
		// Bytes are missing of the frame behind it, of its sum, too, be that another one.
		{"\x01\x01", api.OK}, {"\x01\x01a", api.OK}, {"\x01\x01a\x43", api.OK}, {"\x01\x01a\x43\xbe\xb7", api.OK}, {"\x01\x01a\x00\x00\x00", api.OK},
		{"\x01\x03ab", api.OK}, {"\x01\xff", api.OK}, {"\x02\x4e\x20", api.OK}, {"\x02\x4e\x20" + more[:20003], api.OK},
		// No number.
		{"\x09", api.ErrForm}, {"\xff", api.ErrForm}, {"\x09\x01\x01\x01\x01\x01\x01\x01\x01\x01" + more, api.ErrForm},
		{"\x01\x00", api.ErrForm}, {"\x01\x00a\x43\xbe\xb7\xe8", api.ErrForm}, {"\x02\x00\x01", api.ErrForm}, {"\x02\x00\x01a\x43\xbe\xb7\xe8", api.ErrForm},
		{"\x08\x00\x00\x00\x00\x00\x00\x00\x01", api.ErrForm}, {"\x08\x00\x00\x00\x00\x00\x00\x00\x01a\x43\xbe\xb7\xe8", api.ErrForm},
		// A number that is 0, or above 20000, bytes behind it or not.
		{"\x00", api.ErrForm}, {"\x00" + more, api.ErrForm}, {"\x00\x00\x00\x00\x00", api.ErrForm}, {"\x02\x4e\x21", api.ErrForm}, {"\x02\x4e\x21" + more, api.ErrForm},
		{"\x02\xff\xff", api.ErrForm}, {"\x03\x01\x00\x00", api.ErrForm}, {"\x04\x80\x00\x00\x01", api.ErrForm}, {"\x05\x01\x00\x00\x00\x01" + more, api.ErrForm},
		{"\x08\x01\x00\x00\x00\x00\x00\x00\x01a\x43\xbe\xb7\xe8", api.ErrForm}, {"\x08\x80\x00\x00\x00\x00\x00\x00\x01", api.ErrForm}, {"\x08\xff\xff\xff\xff\xff\xff\xff\xff" + more, api.ErrForm},
		// Another sum.
		{"\x01\x01a\x00\x00\x00\x00", api.ErrSum}, {"\x01\x01a\x42\xbe\xb7\xe8", api.ErrSum}, {"\x01\x01a\x43\xbf\xb7\xe8", api.ErrSum}, {"\x01\x01a\x43\xbe\x37\xe8", api.ErrSum},
		{"\x01\x01a\x43\xbe\xb7\xe9", api.ErrSum}, {"\x01\x01b\x43\xbe\xb7\xe8", api.ErrSum}, {"\x01\x01a\xe8\xb7\xbe\x43", api.ErrSum}, {"\x01\x01a\x43\xbe\xb7\x00\xe8", api.ErrSum},
		{"\x02\x4e\x20" + more[:20004], api.ErrSum}, {"\x01\x02a\x43\xbe\xb7\xe8\x00", api.ErrSum},
	}
}

// P15.2: the tail's error; the whole frames ahead of it are told beside it, and those behind it are not.
func TestTails(t *testing.T) {
	for _, ahead := range [][][]byte{nil, {[]byte("x")}, {[]byte("ab"), long(300), {0}}} {
		b := framed(t, ahead...)
		for _, c := range tails() {
			wants(t, "a tail", append(slices.Clone(b), c.b...), told{ahead, len(b), c.want})
			if c.want != api.OK {
				behind := append(append(slices.Clone(b), c.b...), framed(t, []byte("behind"))...)
				wants(t, "a tail, and a frame", behind, told{ahead, len(b), plain(behind).e})
			}
		}
	}
}

// P15.3: of frames of which just the first bytes are left, just the whole ones are read, and OK.
func TestTorn(t *testing.T) {
	records := [][]byte{[]byte("a"), {0}, []byte("123456789"), long(255), long(256), {255}, long(300), []byte("\x01\x01a\x43\xbe\xb7\xe8")}
	b := framed(t, records...)
	whole, tail := 0, 0
	for n := range len(b) + 1 {
		if whole < len(records) && n == tail+len(framed(t, records[whole])) {
			whole, tail = whole+1, n
		}
		wants(t, "cut", b[:n], told{records[:whole], tail, api.OK})
	}
	if whole != len(records) {
		t.Errorf("%d whole ones", whole)
	}
	ends := framed(t, long(20000), long(19999))
	for _, n := range []int{0, 1, 2, 3, 20002, 20006, 20007, 20008, 20010, len(ends) - 1, len(ends)} {
		if got := read(ends[:n]); !got.same(plain(ends[:n])) || got.e != api.OK {
			t.Errorf("cut at %d: %d records, %d, %v", n, len(got.records), got.tail, got.e)
		}
	}
}

// P15.2: of all short bytes, and of those of which frames are made, Read tells what the words say.
func TestReadShort(t *testing.T) {
	for x := range 1 << 16 {
		wants(t, "one byte", []byte{byte(x)}, plain([]byte{byte(x)}))
		b := []byte{byte(x >> 8), byte(x)}
		wants(t, "two bytes", b, plain(b))
	}
	edges := []byte{0, 1, 2, 3, 8, 9, 0x20, 0x21, 0x4e, 255}
	for x := range 1000000 {
		b := make([]byte, 6)
		for i := range b {
			b[i] = edges[x%10]
			x /= 10
		}
		wants(t, "edges", b, plain(b))
	}
}

// P15.2: likewise of frames that were spoilt.
func TestReadSpoilt(t *testing.T) {
	r := rand.New(rand.NewSource(3))
	seen := map[api.Errno]int{}
	for range 200000 {
		b := framed(t, someRecords(r)...)
		for range r.Intn(4) {
			b = spoil(r, b)
		}
		want := plain(b)
		wants(t, "spoilt", b, want)
		seen[want.e]++
	}
	for _, e := range []api.Errno{api.OK, api.ErrForm, api.ErrSum} {
		if seen[e] < 1000 {
			t.Errorf("%v was told %d times", e, seen[e])
		}
	}
}

// The whole's P2: what is read, written again, is the bytes ahead of the tail, whatever they are.
func FuzzRead(f *testing.F) {
	for _, c := range tails() {
		f.Add([]byte("\x01\x01a\x43\xbe\xb7\xe8" + c.b))
	}
	f.Fuzz(func(t *testing.T, b []byte) {
		got := read(b)
		if !got.same(plain(b)) {
			t.Errorf("Read of %x: %x, %d, %v", b, got.records, got.tail, got.e)
		}
		if !bytes.Equal(framed(t, got.records...), b[:got.tail]) {
			t.Errorf("Read of %x, written again: %x", b, framed(t, got.records...))
		}
	})
}

// The whole's rules 4 and 5: what is handed in is not changed and not kept, what lies behind it is not read, and what is handed out is new memory, each list of it.
func TestMemory(t *testing.T) {
	record := []byte("abcdef")
	b, _ := Write(record[:3])
	want := framed(t, []byte("abc"))
	record[0] = 'x'
	if !bytes.Equal(b, want) || string(record) != "xbcdef" || len(slices.Clip(b)) != cap(b) {
		t.Errorf("Write: %x, room for %d, of %q", b, cap(b), record)
	}
	all := framed(t, []byte("abc"), []byte("de"), []byte("fgh"))
	was := slices.Clone(all)
	wants(t, "bytes behind", all[:10], told{[][]byte{[]byte("abc")}, 9, api.OK})
	wants(t, "a number behind", all[:1], told{})
	got := read(all)
	if len(got.records) != cap(got.records) {
		t.Errorf("%d records, room for %d", len(got.records), cap(got.records))
	}
	for i, record := range got.records {
		if len(record) != cap(record) {
			t.Errorf("record %d: %d bytes, room for %d", i, len(record), cap(record))
		}
		clear(record)
		_ = append(record, 9, 9, 9)
		if rest := got.records[i+1:]; !slices.EqualFunc(rest, plain(was).records[i+1:], bytes.Equal) {
			t.Errorf("records share memory: %q", rest)
		}
	}
	if !bytes.Equal(all, was) {
		t.Errorf("what was handed in was changed: %x", all)
	}
	got = read(all)
	clear(all)
	if !slices.EqualFunc(got.records, plain(was).records, bytes.Equal) {
		t.Errorf("what was handed in is kept: %q", got.records)
	}
}
