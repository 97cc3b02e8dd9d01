package codec

import (
	"bytes"

	"redwax/api"
)

// Reader reads what the functions of this package encoded. Its first failure ends all reading.
type Reader struct {
	// self is the reader that Open returned: a zero Reader has none, and in a copy it is another one.
	self *Reader
	left []byte
	err  api.Errno
}

// Open returns a reader of a copy of b: what becomes of b later does not change what is read.
func Open(b []byte) *Reader {
	r := &Reader{left: bytes.Clone(b)}
	r.self = r
	return r
}

// Err returns the reader's error (P4.4).
func (r *Reader) Err() api.Errno {
	if r == nil || r.self != r {
		return api.ErrNil
	}
	return r.err
}

// Done returns the reader's error, or ErrForm if bytes are left (P4.4).
func (r *Reader) Done() api.Errno {
	if errno := r.Err(); errno != api.OK {
		return errno
	}
	if len(r.left) > 0 {
		return api.ErrForm
	}
	return api.OK
}

// read is what all reads go through: it passes the bytes that are left to look, which returns those
// behind what it read, or an error. After a failure look is not called, so that what it would have
// filled keeps the zero value.
func (r *Reader) read(look func(left []byte) ([]byte, api.Errno)) {
	if r.Err() != api.OK {
		return
	}
	rest, errno := look(r.left)
	if errno != api.OK {
		r.err = errno
		return
	}
	r.left = rest
}

// Num reads a number that is at most most (P4.2).
func (r *Reader) Num(most uint64) uint64 {
	var n uint64
	r.read(func(left []byte) (rest []byte, errno api.Errno) {
		n, rest, errno = cutNum(left, most)
		return rest, errno
	})
	return n
}

// Text reads a string of at most most bytes (P4.2).
func (r *Reader) Text(most int) string {
	var s string
	r.read(func(left []byte) ([]byte, api.Errno) {
		n, rest, errno := cutNum(left, uint64(max(most, 0)))
		if errno != api.OK {
			return nil, errno
		}
		if n > uint64(len(rest)) {
			return nil, api.ErrForm
		}
		s = string(rest[:n])
		return rest[n:], api.OK
	})
	return s
}

// Hash reads a hash (P4.3).
func (r *Reader) Hash() api.Hash {
	var h api.Hash
	r.read(func(left []byte) ([]byte, api.Errno) {
		if len(left) < hashSize {
			return nil, api.ErrForm
		}
		copy(h[:], left)
		return left[hashSize:], api.OK
	})
	return h
}

// Label reads a label whose Level is valid (P4.3).
func (r *Reader) Label() api.Label {
	var l api.Label
	r.read(func(left []byte) ([]byte, api.Errno) {
		level, rest, errno := cutNum(left, api.MaxLevel)
		if errno != api.OK || len(rest) < compSize {
			return nil, api.ErrForm
		}
		l = api.Label{Level: int(level), Comp: compsOf(rest[:compSize])}
		return rest[compSize:], api.OK
	})
	return l
}

// Vertex reads a vertex whose number is not below End (P4.3).
func (r *Reader) Vertex() api.Vertex {
	var v api.Vertex
	r.read(func(left []byte) ([]byte, api.Errno) {
		if len(left) < hashSize {
			return nil, api.ErrForm
		}
		n, rest, errno := cutNum(left[hashSize:], mostVertex)
		if errno != api.OK {
			return nil, api.ErrForm
		}
		copy(v.Patch[:], left)
		v.N = int(n) - vertexShift
		return rest, api.OK
	})
	return v
}

// cutNum returns the number at the front of b, and the bytes behind it; ErrForm if there is none,
// and ErrLong if it is above most.
func cutNum(b []byte, most uint64) (uint64, []byte, api.Errno) {
	n, size := numAt(b)
	if size == 0 {
		return 0, nil, api.ErrForm
	}
	if n > most {
		return 0, nil, api.ErrLong
	}
	return n, b[size:], api.OK
}

// numAt returns the number at the front of b, and how many bytes encode it: none if that is no
// encoding. What is 2^64 or more, or has needless digits, is found out by encoding it again: the
// bytes are not the same then.
func numAt(b []byte) (uint64, int) {
	var n uint64
	for i, x := range b[:min(len(b), mostDigits)] {
		n |= uint64(x%more) << (digitBits * i)
		if x >= more {
			continue
		}
		if !bytes.Equal(digits(n), b[:i+1]) {
			return 0, 0
		}
		return n, i + 1
	}
	return 0, 0
}

// compsOf returns the compartments that b encodes.
func compsOf(b []byte) uint64 {
	var c uint64
	for _, x := range b {
		c = c<<8 | uint64(x)
	}
	return c
}
