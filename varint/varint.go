// Package varint is layer 1: non-negative integers in as few bytes as possible.
package varint

import (
	"changeover/api"
)

const (
	groupBits = 7
	more      = 1 << groupBits // what every byte but the last one has added
	mostBytes = 9              // nine groups of seven bits hold every int from 0 on
)

// Put returns b followed by the encoding of n, in new memory; a negative n counts as 0.
func Put(b []byte, n int) []byte {
	n = max(n, 0)
	out := make([]byte, len(b), len(b)+Len(n))
	copy(out, b)
	for ; n >= more; n >>= groupBits {
		out = append(out, byte(n)|more)
	}
	return append(out, byte(n))
}

// Get returns the number whose encoding begins at position at of b, and the position after it.
func Get(b []byte, at int) (int, int, api.Errno) {
	if at < 0 || at > len(b) {
		return 0, 0, api.ErrRange
	}
	n, end, err := 0, 0, api.ErrShort
groups:
	for i, c := range b[at:] {
		switch {
		case i == mostBytes, i > 0 && c == 0:
			err = api.ErrForm
			break groups
		case c < more:
			n |= int(c) << (groupBits * i)
			end, err = at+i+1, api.OK
			break groups
		}
		n |= int(c-more) << (groupBits * i)
	}
	if err != api.OK {
		return 0, 0, err // a number that was read in part isn't told
	}
	return n, end, api.OK
}

// Len returns how many bytes the encoding of n has; a negative n counts as 0.
func Len(n int) int {
	size := 1
	for ; n >= more; n >>= groupBits {
		size++
	}
	return size
}
