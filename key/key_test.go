package key

import (
	"crypto/sha256"
	"encoding/binary"
	"math"
	"slices"
	"strconv"
	"strings"
	"testing"

	"maund/api"
)

// pointOf is a text's point, by another one's SHA-256.
func pointOf(k string) uint64 {
	d := sha256.Sum256([]byte(k))
	return binary.BigEndian.Uint64(d[:8])
}

// known is texts, and where they stand, by another program.
func known() []struct {
	k          string
	point      uint64
	part, leaf int
} {
	return []struct {
		k          string
		point      uint64
		part, leaf int
	}{
		{"abc", 0xBA7816BF8F01CFEA, 5, 13}, {"a", 0xCA978112CA1BBDCA, 6, 5}, {"-", 0x3973E022E93220F9, 1, 12}, {"0", 0x5FECEB66FFC86F38, 2, 15},
		{"cart-1", 0xC4F39AB85784E5CE, 6, 2}, {strings.Repeat("z", 20), 0x2B96DD70DB5FE6C8, 1, 5},
		{"", 0xE3B0C44298FC1C14, 7, 1}, {"ABC", 0xB5D4045C3F466FA9, 5, 10},
	}
}

// anyTexts is keys that may be, and such as may not.
func anyTexts() []string {
	l := []string{"", "A", "a b", "ä", "\x00", "\xff\xfe", "\xed\xa0\x80", "key\x00", strings.Repeat("a", 21), strings.Repeat("\xff", 1000), strings.Repeat("k", 1<<20)}
	for i := range 2000 {
		l = append(l, strconv.Itoa(i), "cart-"+strconv.Itoa(i), string(rune(i)))
	}
	return l
}

// P11.1: each byte, alone, and at each place of keys of each length.
func TestRightBytes(t *testing.T) {
	for x := range 256 {
		b := byte(x)
		want := b >= 'a' && b <= 'z' || b >= '0' && b <= '9' || b == '-'
		for n := 1; n <= api.MaxKey; n++ {
			for at := range n {
				k := []byte(strings.Repeat("k", n))
				k[at] = b
				if Right(string(k)) != want {
					t.Fatalf("Right(%q): %v", k, !want)
				}
			}
		}
	}
}

// P11.1: from 1 to MaxKey bytes: bytes, not letters, count.
func TestRightLengths(t *testing.T) {
	for n := range 100 {
		for _, letter := range []string{"a", "z", "0", "9", "-"} {
			if got, want := Right(strings.Repeat(letter, n)), n >= 1 && n <= 20; got != want {
				t.Errorf("%d times %s: %v", n, letter, got)
			}
		}
	}
	for _, k := range []string{"abcdefghijklmnopqrst", "uvwxyz0123456789-", "-", "--", "0", "-a", "a-", "cart-1"} {
		if !Right(k) {
			t.Errorf("%q may not be", k)
		}
	}
	for _, k := range []string{
		"", "A", "Z", "cart_1", "cart 1", " a", "a ", "a\n", "a\x00", "\x00", "a.b", "a/b", "a:b", "`", "{", "@", "[", ",", "+",
		"é", "ａ", "ー", "–", "‐", "ß", "٣", "\u00ad", "\xff", "a\xff", "\xc3", "\xe1", "\xad", "\xb0", "š", "\u0161", "\u0130",
		strings.Repeat("a", 21), strings.Repeat("a", 20) + "A", strings.Repeat("a", 256), strings.Repeat("a", 276), strings.Repeat("a", 1<<20),
	} {
		if Right(k) {
			t.Errorf("%.40q may be", k)
		}
	}
}

// P11.1: where texts stand, the document's example among them, those that may be no keys too.
func TestKnown(t *testing.T) {
	for _, c := range known() {
		if got := Point(c.k); got != c.point {
			t.Errorf("Point(%q): %X, want %X", c.k, got, c.point)
		}
		part, leaf := At(c.k)
		if part != c.part || leaf != c.leaf || Part(c.k) != c.part || Leaf(c.k) != c.leaf {
			t.Errorf("%q: %d %d, %d, %d, want %d %d", c.k, part, leaf, Part(c.k), Leaf(c.k), c.part, c.leaf)
		}
	}
}

// P11.1: of any text, told by another one's SHA-256.
func TestAnyText(t *testing.T) {
	for _, k := range anyTexts() {
		p := pointOf(k)
		if Point(k) != p {
			t.Fatalf("Point(%.40q): %X, want %X", k, Point(k), p)
		}
		wantPart, wantLeaf := int(p/(1<<61)), int(p/(1<<57)%16)
		if part, leaf := At(k); part != wantPart || leaf != wantLeaf {
			t.Fatalf("At(%.40q): %d %d, want %d %d", k, part, leaf, wantPart, wantLeaf)
		}
		if Part(k) != wantPart || Leaf(k) != wantLeaf {
			t.Fatalf("%.40q: Part %d, Leaf %d, want %d %d", k, Part(k), Leaf(k), wantPart, wantLeaf)
		}
	}
}

// P11.1: the bases, the document's example among them; ErrArg and 0 of no part.
func TestBase(t *testing.T) {
	for part, want := range []uint64{
		0, 0x2000000000000000, 0x4000000000000000, 0x6000000000000000,
		0x8000000000000000, 0xA000000000000000, 0xC000000000000000, 0xE000000000000000,
	} {
		if got, e := Base(part); got != want || e != api.OK {
			t.Errorf("Base(%d): %X, %v", part, got, e)
		}
	}
	for _, part := range []int{-1, -8, 8, 9, 16, 64, 1 << 32, math.MinInt, math.MinInt + 1, math.MaxInt} {
		if got, e := Base(part); got != 0 || e != api.ErrArg {
			t.Errorf("Base(%d): %X, %v", part, got, e)
		}
	}
}

// P11.2: a key's point lies from its part's base on, up to the next one's; each part and leaf has keys.
func TestPartOfPoint(t *testing.T) {
	keys := [api.Parts][api.Leaves]int{}
	for _, k := range anyTexts() {
		part, leaf := At(k)
		keys[part][leaf]++
		base, e := Base(part)
		if e != api.OK || Point(k) < base {
			t.Fatalf("%.40q: the point %X, below its part's base %X, %v", k, Point(k), base, e)
		}
		if next, e := Base(part + 1); e == api.OK && Point(k) >= next {
			t.Fatalf("%.40q: the point %X, not below the next base %X", k, Point(k), next)
		} else if e != api.OK && part != api.Parts-1 {
			t.Fatalf("%.40q: no part behind the part %d", k, part)
		}
	}
	for part, leaves := range keys {
		if slices.Contains(leaves[:], 0) {
			t.Errorf("part %d: keys of the leaves %v", part, leaves)
		}
	}
}

// P11.2: the edges of parts and leaves: the first and the last point of each.
func TestEdges(t *testing.T) {
	const perLeaf = 1 << 57
	for part := range api.Parts {
		base, _ := Base(part)
		for leaf := range api.Leaves {
			first := base + uint64(leaf)*perLeaf
			for _, p := range []uint64{first, first + 1, first + perLeaf/2, first + perLeaf - 1} {
				if partOf(p) != part || leafOf(p) != leaf {
					t.Errorf("%X: %d %d, want %d %d", p, partOf(p), leafOf(p), part, leaf)
				}
			}
		}
	}
	if base, _ := Base(api.Parts - 1); base+(api.Leaves-1)*perLeaf+(perLeaf-1) != math.MaxUint64 {
		t.Error("the last leaf's last point is not the greatest one")
	}
}
