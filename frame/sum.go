package frame

// poly is what a sum is xor'ed with, when a 1 falls out of it: CRC-32's, IEEE.
const poly = 0xEDB88320

// Sum is the sum of bytes.
func Sum(b []byte) uint32 {
	s := ^uint32(0)
	for _, x := range b {
		s ^= uint32(x)
		for range 8 {
			s = halved(s)
		}
	}
	return ^s
}

// halved is a sum, halved, and xor'ed, if a 1 fell out.
func halved(s uint32) uint32 {
	if s&1 == 0 {
		return s >> 1
	}
	return s>>1 ^ poly
}

// sumOf is the bytes of a record's sum, the lowest first.
func sumOf(record []byte) []byte {
	s := Sum(record)
	return []byte{byte(s), byte(s >> 8), byte(s >> 16), byte(s >> 24)}
}
