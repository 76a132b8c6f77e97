package frame

import (
	"bytes"
	"encoding/binary"
	"hash/crc32"
	"math/big"
	"math/rand"
	"slices"
	"testing"

	"maund/api"
)

// long is n bytes.
func long(n int) []byte {
	b := make([]byte, n)
	for i := range b {
		b[i] = byte(i*7 + i>>8)
	}
	return b
}

// some are records that may be, of the lengths at which a number's bytes change, and the last one.
func some() [][]byte {
	return [][]byte{[]byte("a"), {0}, {255}, []byte("ab"), []byte("123456789"), long(255), long(256), long(300), long(19999), long(20000), make([]byte, 20000)}
}

// framed is the frames of records, one behind the other.
func framed(t *testing.T, records ...[]byte) []byte {
	t.Helper()
	var all []byte
	for _, record := range records {
		b, e := Write(record)
		if e != api.OK {
			t.Fatalf("Write of %d bytes: %v", len(record), e)
		}
		all = append(all, b...)
	}
	return all
}

// told is what Read tells.
type told struct {
	records [][]byte
	tail    int
	e       api.Errno
}

// read is what it tells of bytes.
func read(b []byte) told {
	records, tail, e := Read(b)
	return told{records, tail, e}
}

// same tells whether two are equal.
func (a told) same(b told) bool {
	return slices.EqualFunc(a.records, b.records, bytes.Equal) && a.tail == b.tail && a.e == b.e
}

// plain is what Read must tell, told by the words, with the library's own sum.
func plain(b []byte) told {
	var out told
	for out.tail < len(b) {
		k, rest := int(b[out.tail]), b[out.tail+1:]
		if k > 8 {
			out.e = api.ErrForm
			return out
		}
		if len(rest) < k {
			return out
		}
		n := new(big.Int).SetBytes(rest[:k])
		if k > 0 && rest[0] == 0 || n.Sign() == 0 || n.Cmp(big.NewInt(20000)) > 0 {
			out.e = api.ErrForm
			return out
		}
		size := int(n.Int64())
		rest = rest[k:]
		if len(rest) < size+4 {
			return out
		}
		if crc32.ChecksumIEEE(rest[:size]) != binary.LittleEndian.Uint32(rest[size:]) {
			out.e = api.ErrSum
			return out
		}
		out.records = append(out.records, rest[:size])
		out.tail += 1 + k + size + 4
	}
	return out
}

// wants holds what Read tells of bytes against what is wanted.
func wants(t *testing.T, what string, b []byte, want told) {
	t.Helper()
	if got := read(b); !got.same(want) {
		t.Fatalf("%s, Read of %.80x: %.80x, %d, %v, want %.80x, %d, %v", what, b, got.records, got.tail, got.e, want.records, want.tail, want.e)
	}
}

// someRecords is up to four records, most of them short.
func someRecords(r *rand.Rand) [][]byte {
	l := make([][]byte, r.Intn(5))
	for i := range l {
		n := 1 + r.Intn(6)
		if r.Intn(8) == 0 {
			n = 1 + r.Intn(600)
		}
		l[i] = make([]byte, n)
		r.Read(l[i])
	}
	return l
}

// spoil is bytes with one thing wrong, or cut.
func spoil(r *rand.Rand, b []byte) []byte {
	at := r.Intn(len(b) + 1)
	edge := []byte{0, 1, 2, 3, 8, 9, 255, byte(r.Intn(256))}[r.Intn(8)]
	switch r.Intn(5) {
	case 0:
		return b[:at]
	case 1:
		return slices.Insert(b, at, edge)
	case 2:
		return append(b, edge)
	}
	if at == len(b) {
		return b
	}
	if r.Intn(2) == 0 {
		return slices.Delete(b, at, at+1)
	}
	b[at] = edge
	return b
}
