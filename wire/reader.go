package wire

import "maund/api"

// Reader reads what a Writer wrote. The first fault stays; behind it each call tells nothing.
type Reader struct {
	made  bool
	b     []byte
	at    int
	fault api.Errno
}

// From is a reader of bytes. It has a copy of them, for they may be changed by whoever handed them in.
func From(b []byte) *Reader {
	return &Reader{made: true, b: fresh(b)}
}

// Err is the fault; OK without one; ErrNil of a reader that From did not make.
func (r *Reader) Err() api.Errno {
	if r == nil || !r.made {
		return api.ErrNil
	}
	return r.fault
}

// End is the fault; ErrLong, if bytes are left.
func (r *Reader) End() api.Errno {
	if e := r.Err(); e != api.OK {
		return e
	}
	if r.Left() > 0 {
		return api.ErrLong
	}
	return api.OK
}

// Left is how many bytes are left; 0 behind a fault.
func (r *Reader) Left() int {
	if r.Err() != api.OK {
		return 0
	}
	return len(r.b) - r.at
}

// Must is a fault, if something is not so.
func (r *Reader) Must(is bool) {
	if !is {
		r.fail(api.ErrForm)
	}
}

// Num is the number that stands here.
func (r *Reader) Num() uint64 {
	head := r.take(1)
	if len(head) == 0 {
		return 0
	}
	if head[0] > mostBytes {
		r.fail(api.ErrForm)
		return 0
	}
	n := uint64(0)
	for i, x := range r.take(uint64(head[0])) {
		if i == 0 && x == 0 {
			r.fail(api.ErrForm)
			return 0
		}
		n = n<<8 | uint64(x)
	}
	return n
}

// Small is the number that stands here; a fault, if it is above most, or most is below 0.
func (r *Reader) Small(most int) int {
	n := r.Num()
	if most < 0 || n > uint64(most) {
		r.fail(api.ErrForm)
		return 0
	}
	return int(n)
}

// Int is the whole number that stands here; a fault, if it is not from -2^62 to 2^62.
func (r *Reader) Int() int {
	n := r.Num()
	if n > mostTwice {
		r.fail(api.ErrForm)
		return 0
	}
	half := int(n / 2)
	if n%2 == 1 {
		return -half - 1
	}
	return half
}

// Text is the text that stands here, in new memory; a fault, if it has more than most bytes, or most is below 0.
func (r *Reader) Text(most int) []byte {
	n := r.Small(most)
	return fresh(r.take(uint64(n)))
}

// Digest is the digest that stands here.
func (r *Reader) Digest() api.Digest {
	var d api.Digest
	copy(d[:], r.take(uint64(len(d))))
	return d
}

// Vec is the vector that stands here.
func (r *Reader) Vec() api.Vec {
	var v api.Vec
	for i := range v {
		v[i] = r.Num()
	}
	if r.Err() != api.OK {
		return api.Vec{}
	}
	return v
}

// take is the next n bytes, and goes on behind them; a fault, and nothing, if they are not there. It is a full slice, so that nothing behind them is within reach.
func (r *Reader) take(n uint64) []byte {
	if r.Err() != api.OK {
		return nil
	}
	if n > uint64(r.Left()) {
		r.fail(api.ErrShort)
		return nil
	}
	from := r.at
	r.at += int(n)
	return r.b[from:r.at:r.at]
}

// fail lets a fault be there, unless there is one already.
func (r *Reader) fail(e api.Errno) {
	if r.Err() == api.OK {
		r.fault = e
	}
}
