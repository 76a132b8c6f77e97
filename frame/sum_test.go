package frame

import (
	"hash/crc32"
	"math/rand"
	"slices"
	"testing"

	"maund/api"
)

// P15.1: the sum.
func TestSum(t *testing.T) {
	zeros, ones := make([]byte, 32), slices.Repeat([]byte{255}, 32)
	for text, want := range map[string]uint32{
		"": 0, "123456789": 0xCBF43926, "a": 0xE8B7BE43, "abc": 0x352441C2, "\x00": 0xD202EF8D, "\xff": 0xFF000000,
		"The quick brown fox jumps over the lazy dog": 0x414FA339, string(zeros): 0x190A55AD, string(ones): 0xFF6CAB0B,
	} {
		if got := Sum([]byte(text)); got != want {
			t.Errorf("Sum(%q): %08X, want %08X", text, got, want)
		}
	}
	if got := Sum(nil); got != 0 {
		t.Errorf("Sum(nil): %08X", got)
	}
}

// P15.1: the sum is the library's, of each byte, and of as many bytes as a record has, or more.
func TestSumOfAll(t *testing.T) {
	r := rand.New(rand.NewSource(1))
	all := [][]byte{long(20000), long(20001), long(1 << 17)}
	for x := range 256 {
		all = append(all, []byte{byte(x)}, []byte{0, byte(x)}, []byte{byte(x), 0})
	}
	for n := range 600 {
		b := make([]byte, n)
		r.Read(b)
		all = append(all, b)
	}
	for _, b := range all {
		if got, want := Sum(b), crc32.ChecksumIEEE(b); got != want {
			t.Fatalf("Sum of %d bytes, %.40x: %08X, want %08X", len(b), b, got, want)
		}
	}
}

// turned is bytes, the bits of a pattern turned from a bit on, the lowest of each byte first; false, if they are not all within.
func turned(b []byte, from int, pattern uint32) ([]byte, bool) {
	out := slices.Clone(b)
	for i := range 32 {
		if pattern>>i&1 == 0 {
			continue
		}
		bit := from + i
		if bit/8 >= len(out) {
			return nil, false
		}
		out[bit/8] ^= 1 << (bit % 8)
	}
	return out, true
}

// patterns are bits within 32 side by side, the first one turned: each alone, each two, all short ones, and some long ones.
func patterns() []uint32 {
	l := []uint32{1, 1<<32 - 1}
	for i := 1; i < 32; i++ {
		l = append(l, 1|1<<i, 1<<i|(1<<i-1))
	}
	for x := range uint32(128) {
		l = append(l, x<<1|1)
	}
	r := rand.New(rand.NewSource(2))
	for range 200 {
		l = append(l, r.Uint32()|1)
	}
	return l
}

// P15.4: bits that are turned within 32 side by side turn the sum, wherever they stand; and Read tells it.
func TestBursts(t *testing.T) {
	ahead := []byte("ahead")
	for _, record := range [][]byte{{0}, {255}, []byte("ab"), []byte("abc"), []byte("1234"), []byte("12345"), make([]byte, 9), long(33)} {
		sum, frame := Sum(record), framed(t, record)
		for from := range 8 * len(record) {
			for _, pattern := range patterns() {
				b, within := turned(record, from, pattern)
				if !within {
					continue
				}
				if Sum(b) == sum {
					t.Fatalf("%x, and %x, turned by %08X from %d: %08X", record, b, pattern, from, sum)
				}
				damaged := append(framed(t, ahead), frame...)
				copy(damaged[len(damaged)-len(record)-4:], b)
				wants(t, "turned bits", damaged, told{[][]byte{ahead}, len(damaged) - len(frame), api.ErrSum})
			}
		}
	}
}

// P15.4: likewise in the longest record.
func TestBurstsInLong(t *testing.T) {
	record := long(20000)
	sum := Sum(record)
	for _, from := range []int{0, 1, 7, 8, 255, 80001, 159936, 159967, 159968, 159991, 159999} {
		for _, pattern := range []uint32{1, 3, 0x101, 0x80000001, 0xFFFFFFFF, 0xEDB88320 | 1, 0x12345679} {
			b, within := turned(record, from, pattern)
			if within && Sum(b) == sum {
				t.Errorf("turned by %08X from %d: %08X", pattern, from, sum)
			}
		}
	}
}
