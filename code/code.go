// Package code is layer 1: see shared/doc/01-code.md.
package code

import (
	"strings"

	"rafter/api"
)

// more stands on each byte of a number but the last one.
const more = 128

// layer answers a function that lays parts behind the text it is made for, and tells all that stands there by then.
func layer(text string) func(parts ...string) string {
	var laid strings.Builder
	laid.WriteString(text)
	return func(parts ...string) string {
		for _, part := range parts {
			laid.WriteString(part)
		}
		return laid.String()
	}
}

// size lays how many there are of what comes behind.
func size(n int) string { return Num(uint64(n)) }

// Num lays a number.
func Num(n uint64) string {
	var laid []byte
	for n >= more {
		laid = append(laid, byte(n)|more)
		n >>= 7
	}
	return string(append(laid, byte(n)))
}

// Text lays a text.
func Text(s string) string {
	lay := layer(size(len(s)))
	return lay(s)
}

// List lays texts.
func List(l ...string) string {
	lay := layer(size(len(l)))
	for _, s := range l {
		lay(size(len(s)), s)
	}
	return lay()
}

// Reader is what is left to be read.
type Reader struct {
	rest string
	err  api.Errno
}

// Read begins to read.
func Read(s string) *Reader { return &Reader{rest: s} }

// Num reads a number.
func (r *Reader) Num() uint64 {
	if r.Err() != api.OK {
		return 0
	}
	end := numberEnd(r.rest)
	if end < 0 {
		r.fail(api.ErrShort)
		return 0
	}
	n, ok := number(r.rest[:end])
	if !ok {
		r.fail(api.ErrForm)
		return 0
	}
	r.rest = r.rest[end:]
	return n
}

// Text reads a text.
func (r *Reader) Text() string {
	n := r.count()
	if r.Err() != api.OK {
		return ""
	}
	s := r.rest[:n]
	r.rest = r.rest[n:]
	return s
}

// List reads texts.
func (r *Reader) List() []string {
	n := r.count()
	// No room is made ahead for n texts: bytes that lie about n shall not cost memory.
	var l []string
	for range n {
		s := r.Text()
		if r.err != api.OK {
			return nil
		}
		l = append(l, s)
	}
	return l
}

// Left tells how many bytes are left.
func (r *Reader) Left() int {
	if r == nil {
		return 0
	}
	return len(r.rest)
}

// Err tells what was wrong.
func (r *Reader) Err() api.Errno {
	if r == nil {
		return api.ErrNil
	}
	return r.err
}

// fail keeps what was wrong; with nothing left, no later call reads behind it.
func (r *Reader) fail(e api.Errno) {
	r.rest, r.err = "", e
}

// count reads how many bytes, or texts, come: as each text has a byte at least, never more than bytes are left.
func (r *Reader) count() int {
	n := r.Num()
	if n > uint64(r.Left()) {
		r.fail(api.ErrShort)
		return 0
	}
	return int(n)
}

// numberEnd tells where the number ends that s begins with; -1: not within s.
// It is looked for first, for bytes that end are told ahead of bytes that nobody lays so.
func numberEnd(s string) int {
	for i := range len(s) {
		if s[i] < more {
			return i + 1
		}
	}
	return -1
}

// number tells which number the bytes of s are, its last one being at the end of s; false: nobody lays it so.
func number(s string) (uint64, bool) {
	if len(s) > 1 && s[len(s)-1] == 0 {
		return 0, false
	}
	var n uint64
	for i := len(s) - 1; i >= 0; i-- {
		if n>>(64-7) != 0 {
			return 0, false
		}
		n = n<<7 | uint64(s[i]%more)
	}
	return n, true
}
