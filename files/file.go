package files

// maxName is how many bytes a name has at most.
const maxName = 20

// file is a file's bytes, and how many of the first ones are safe.
type file struct {
	bytes []byte
	safe  int
}

// mayBe tells whether a name may be a file's.
func mayBe(name string) bool {
	if len(name) < 1 || len(name) > maxName {
		return false
	}
	for i := range len(name) {
		if !isLetter(name[i]) {
			return false
		}
	}
	return true
}

// isLetter tells whether a name may have a byte.
func isLetter(b byte) bool {
	return b >= 'a' && b <= 'z' || b >= '0' && b <= '9' || b == '-' || b == '.'
}

// with is the file with b behind its bytes.
func (x file) with(b []byte) file { return file{bytes: append(x.bytes, b...), safe: x.safe} }

// synced is the file with all its bytes safe.
func (x file) synced() file { return file{bytes: x.bytes, safe: len(x.bytes)} }

// cut is the file with its first n bytes alone; it has as many.
func (x file) cut(n int) file { return file{bytes: x.bytes[:n], safe: min(x.safe, n)} }

// crashed is the file behind a crash, of which the first last bytes that were not safe lasted.
func (x file) crashed(last int) file {
	// Bounded ahead of the sum, which could leave its type.
	more := min(max(last, 0), len(x.bytes)-x.safe)
	return x.cut(x.safe + more).synced()
}
