// Package octet is layer 1: numbers of fixed width, the lowest byte first (see shared/doc/01-octet.md).
package octet

import (
	"bytes"
	"slices"

	"taximeter/api"
)

// Put answers b, and n of that width behind: its lowest bytes, if it does not fit; b alone, if there is no such width.
func Put(b []byte, width int, n uint64) []byte {
	var low [8]byte
	switch width {
	case 8:
		low[7], low[6], low[5], low[4] = byte(n>>56), byte(n>>48), byte(n>>40), byte(n>>32)
		fallthrough
	case 4:
		low[3], low[2] = byte(n>>24), byte(n>>16)
		fallthrough
	case 2:
		low[1] = byte(n >> 8)
		fallthrough
	case 1:
		low[0] = byte(n)
	}
	return slices.Concat(b, low[:size(width)])
}

// Fits tells whether there is such a width, and n has no bits above it.
func Fits(width int, n uint64) bool {
	bits := 8 * size(width)
	return bits > 0 && n>>bits == 0
}

// size is how many bytes a number of that width has: 0, if there is no such width.
func size(width int) int {
	switch width {
	case 1, 2, 4, 8:
		return width
	}
	return 0
}

// value is the number whose bytes b is: 0 of no bytes.
func value(b []byte) uint64 {
	var n uint64
	switch len(b) {
	case 8:
		n |= uint64(b[7])<<56 | uint64(b[6])<<48 | uint64(b[5])<<40 | uint64(b[4])<<32
		fallthrough
	case 4:
		n |= uint64(b[3])<<24 | uint64(b[2])<<16
		fallthrough
	case 2:
		n |= uint64(b[1]) << 8
		fallthrough
	case 1:
		n |= uint64(b[0])
	}
	return n
}

// Cursor goes over bytes from their beginning on, up to the first error it meets.
type Cursor struct {
	bytes []byte
	at    int
	err   api.Errno
}

// NewCursor answers a cursor at the beginning of b's bytes. It has a copy, as b is the caller's to change.
func NewCursor(b []byte) *Cursor {
	return &Cursor{bytes: bytes.Clone(b)}
}

// Number reads a number of that width: it is 0, and nothing is read, if there is no such width.
func (c *Cursor) Number(width int) uint64 {
	return value(c.take(size(width)))
}

// Bytes reads n bytes: none, if n is below 0.
func (c *Cursor) Bytes(n int) []byte {
	return bytes.Clone(c.take(n))
}

// Text reads a number of that width, and so many bytes behind it. A number above most is an error ahead of those bytes, so that they are not asked for.
func (c *Cursor) Text(width, most int) string {
	n := c.Number(width)
	if c.Err() != api.OK {
		return ""
	}
	if most < 0 || n > uint64(most) {
		c.err = api.ErrForm
		return ""
	}
	return string(c.take(int(n)))
}

// Left is how many bytes come behind the place.
func (c *Cursor) Left() int {
	if c == nil {
		return 0
	}
	return len(c.bytes) - c.at
}

// Err is the first error that the cursor met.
func (c *Cursor) Err() api.Errno {
	if c == nil {
		return api.ErrShort
	}
	return c.err
}

// Done is the first error that the cursor met, or else ErrForm, if bytes are left. It asks only: ErrForm is not kept.
func (c *Cursor) Done() api.Errno {
	if c.Err() == api.OK && c.Left() > 0 {
		return api.ErrForm
	}
	return c.Err()
}

// take goes over the next n bytes, and answers them as they lie in the cursor, for the caller to copy. It takes all of them, or, with an error, none.
func (c *Cursor) take(n int) []byte {
	if c.Err() != api.OK || n <= 0 {
		return nil
	}
	if n > c.Left() {
		c.err = api.ErrShort
		return nil
	}
	part := c.bytes[c.at : c.at+n]
	c.at += n
	return part
}
