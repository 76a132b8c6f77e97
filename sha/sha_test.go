package sha

import (
	"bytes"
	"crypto/sha256"
	"encoding/hex"
	"math"
	"strings"
	"sync"
	"testing"

	"maund/api"
)

// pattern is n bytes, such that no two places near each other have the same ones.
func pattern(n int) []byte {
	b := make([]byte, n)
	x := uint32(1)
	for i := range b {
		x = x*1664525 + 1013904223
		b[i] = byte(x >> 24)
	}
	return b
}

// P1.1: digests that FIPS 180-4 and the document tell.
func TestSumKnown(t *testing.T) {
	for _, c := range []struct{ text, want string }{
		{"", "E3B0C44298FC1C149AFBF4C8996FB92427AE41E4649B934CA495991B7852B855"},
		{"abc", "BA7816BF8F01CFEA414140DE5DAE2223B00361A396177A9CB410FF61F20015AD"},
		{"abcdbcdecdefdefgefghfghighijhijkijkljklmklmnlmnomnopnopq", "248D6A61D20638B8E5C026930C3E6039A33CE45964FF2167F6ECEDD419DB06C1"},
		{"abcdefghbcdefghicdefghijdefghijkefghijklfghijklmghijklmnhijklmnoijklmnopjklmnopqklmnopqrlmnopqrsmnopqrstnopqrstu", "CF5B16A778AF8380036CE59E7B0492370B249B11E8F07A51AFAC45037AFEE9D1"},
		{strings.Repeat("a", 1000000), "CDC76E5C9914FB9281A1C7E284D73E67F1809A48A497200E046D39CCC7112CD0"},
	} {
		d := Sum([]byte(c.text))
		if got := strings.ToUpper(hex.EncodeToString(d[:])); got != c.want {
			t.Errorf("Sum of %d bytes: %s, want %s", len(c.text), got, c.want)
		}
	}
}

// P1.1: each length around some blocks, against another one's SHA-256.
func TestSumLengths(t *testing.T) {
	b := pattern(400)
	for n := 0; n <= len(b); n++ {
		if got, want := Sum(b[:n]), api.Digest(sha256.Sum256(b[:n])); got != want {
			t.Fatalf("Sum of %d bytes: %x, want %x", n, got, want)
		}
	}
	for _, x := range []byte{0, 0x80, 0xFF} {
		for n := 54; n <= 65; n++ {
			c := bytes.Repeat([]byte{x}, n)
			if got, want := Sum(c), api.Digest(sha256.Sum256(c)); got != want {
				t.Fatalf("Sum of %d bytes %x: %x, want %x", n, x, got, want)
			}
		}
	}
}

// P1.1: no pieces at all, and pieces without bytes, are no bytes.
func TestSumOfNothing(t *testing.T) {
	want := api.Digest(sha256.Sum256(nil))
	for i, got := range []api.Digest{Sum(), Sum(nil), Sum([]byte{}), Sum(nil, []byte{}, nil), Sum([][]byte(nil)...)} {
		if got != want {
			t.Errorf("%d: %x, want %x", i, got, want)
		}
	}
}

// P1.3: cut in two or three at each place.
func TestPieces(t *testing.T) {
	b := pattern(150)
	want := api.Digest(sha256.Sum256(b))
	for i := 0; i <= len(b); i++ {
		for j := i; j <= len(b); j++ {
			if got := Sum(b[:i], b[i:j], b[j:]); got != want {
				t.Fatalf("cut at %d and %d: %x, want %x", i, j, got, want)
			}
		}
	}
}

// P1.3: cut into many pieces of one size, with empty ones between.
func TestManyPieces(t *testing.T) {
	b := pattern(333)
	want := Sum(b)
	for size := 1; size <= 130; size++ {
		var l [][]byte
		for i := 0; i < len(b); i += size {
			l = append(l, b[i:min(i+size, len(b))], nil)
		}
		var m Meter
		if got := Sum(l...); got != want {
			t.Errorf("pieces of %d: %x, want %x", size, got, want)
		}
		if got := m.Sum(l...); got != want || m.Count() != Blocks(len(b)) {
			t.Errorf("a meter, pieces of %d: %x, %d blocks", size, got, m.Count())
		}
	}
	if Sum([]byte("ab"), []byte("c")) == Sum([]byte("c"), []byte("ab")) {
		t.Error("the order of pieces does not count")
	}
}

// P1.1: the first eight bytes of the digest, the greatest first.
func TestPoint(t *testing.T) {
	if got := Point([]byte("abc")); got != 0xBA7816BF8F01CFEA {
		t.Errorf("Point(abc): %X", got)
	}
	if got := Point(nil); got != 0xE3B0C44298FC1C14 {
		t.Errorf("Point(nil): %X", got)
	}
	for n := 0; n < 100; n++ {
		b := pattern(n)
		d := sha256.Sum256(b)
		want := uint64(0)
		for _, x := range d[:8] {
			want = want*256 + uint64(x)
		}
		if got := Point(b); got != want {
			t.Errorf("Point of %d bytes: %X, want %X", n, got, want)
		}
	}
}

// P1.1: the edges of blocks, and sizes that no bytes have.
func TestBlocks(t *testing.T) {
	for _, c := range []struct {
		n    int
		want uint64
	}{
		{math.MinInt, 0}, {-1, 0}, {0, 1}, {1, 1}, {55, 1}, {56, 2}, {63, 2}, {64, 2}, {65, 2}, {119, 2}, {120, 3}, {128, 3},
		{1 << 31, 1<<25 + 1}, {math.MaxInt - 8, 1 << 57}, {math.MaxInt - 7, 1<<57 + 1}, {math.MaxInt, 1<<57 + 1},
	} {
		if got := Blocks(c.n); got != c.want {
			t.Errorf("Blocks(%d): %d, want %d", c.n, got, c.want)
		}
	}
}

// P1.2: a meter's digest is Sum's, and it counts all blocks that there were.
func TestMeter(t *testing.T) {
	var m Meter
	if m.Count() != 0 {
		t.Errorf("none ahead: %d", m.Count())
	}
	b := pattern(200)
	want := uint64(0)
	for n := 0; n <= len(b); n++ {
		if m.Sum(b[:n]) != Sum(b[:n]) {
			t.Fatalf("%d bytes: another digest", n)
		}
		want += Blocks(n)
		if m.Count() != want || m.Count() != want {
			t.Fatalf("%d bytes: %d blocks, want %d", n, m.Count(), want)
		}
	}
	if m.Sum() != Sum() || m.Count() != want+1 {
		t.Errorf("no pieces: %d blocks, want %d", m.Count(), want+1)
	}
	Sum(b)
	Point(b)
	if m.Count() != want+1 {
		t.Error("a meter counts what was not its")
	}
	var other Meter
	if other.Count() != 0 {
		t.Error("meters share a count")
	}
}

// P1.2: of nil Sum's digest, and 0.
func TestMeterNil(t *testing.T) {
	var m *Meter
	if m.Sum([]byte("a"), []byte("bc")) != Sum([]byte("abc")) || m.Sum() != Sum() {
		t.Error("nil: another digest")
	}
	if m.Count() != 0 {
		t.Errorf("nil: %d", m.Count())
	}
}

// P1.2: one meter for several goroutines loses no block.
func TestMeterTogether(t *testing.T) {
	var m Meter
	var g sync.WaitGroup
	b := pattern(100)
	for range 8 {
		g.Go(func() {
			for range 200 {
				m.Sum(b)
			}
		})
	}
	g.Wait()
	if want := 8 * 200 * Blocks(len(b)); m.Count() != want {
		t.Errorf("%d blocks, want %d", m.Count(), want)
	}
}

// Rules 4 and 5: pieces are not changed, and what lies behind their length neither.
func TestPiecesStay(t *testing.T) {
	all := pattern(300)
	was := bytes.Clone(all)
	var m Meter
	short := Sum(all[:70], all[100:130])
	if m.Sum(all[:70], all[100:130]) != short || short != Sum(append(bytes.Clone(all[:70]), all[100:130]...)) {
		t.Error("another digest")
	}
	Point(all[:10])
	if !bytes.Equal(all, was) {
		t.Error("pieces were changed")
	}
	all[80] ^= 1
	if Sum(all[:70], all[100:130]) != short {
		t.Error("what lies behind a piece was read")
	}
}
