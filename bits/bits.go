// Package bits writes whole numbers as bytes, and reads them.
package bits

import (
	"slices"

	"annalist/api"
)

const (
	// group is the bits of a byte of Var that are the number's.
	group = 7
	// more stands in a byte of Var behind which another one follows.
	more = 1 << group
	// longest is how many groups 64 bits take: the last one has a single bit.
	longest = 10
	// sign turns the order of numbers with a sign into that of numbers without one.
	sign = 1 << 63
	// prime is what both halves of Sum stay below.
	prime = 65521
)

// Fixed writes the lowest size bytes of a number, the lowest one first; at most all eight.
func Fixed(n uint64, size int) string {
	b := lay(n)
	return string(b[:min(max(size, 0), len(b))])
}

// Unfixed reads a number of at most eight bytes, the lowest one first.
func Unfixed(s string) uint64 {
	var b [8]byte
	copy(b[:], s)
	var n uint64
	for i, c := range b {
		n |= uint64(c) << (8 * i)
	}
	return n
}

// Var writes a number in as few groups of seven bits as it needs.
func Var(n uint64) string {
	var b []byte
	for ; n >= more; n >>= group {
		b = append(b, byte(n)|more)
	}
	return string(append(b, byte(n)))
}

// Unvar reads a number in groups of seven bits, and tells how many bytes it has; none, if it is not so written.
func Unvar(s string) (uint64, int) {
	var n uint64
	for i := range min(len(s), longest) {
		c := s[i]
		n |= uint64(c&^more) << (group * i)
		switch {
		case i == longest-1 && c > 1:
			return 0, 0 // more than 64 bits
		case c == 0 && i > 0:
			return 0, 0 // Var writes no group that the number doesn't need
		case c < more:
			return n, i + 1
		}
	}
	return 0, 0
}

// Fold makes a number of one with a sign: near ones of either sign are small.
func Fold(n int) uint64 {
	u := uint64(n) << 1
	if n < 0 {
		return ^u
	}
	return u
}

// Unfold is what Fold was made of.
func Unfold(u uint64) int {
	n := int(u >> 1)
	if u&1 == 1 {
		return ^n
	}
	return n
}

// Ordered writes a number so that texts are in the order of numbers.
func Ordered(n int) string {
	b := lay(uint64(n) ^ sign)
	slices.Reverse(b[:])
	return string(b[:])
}

// Unordered is what Ordered was made of.
func Unordered(s string) (int, api.Errno) {
	if len(s) != 8 {
		return 0, api.ErrBad
	}
	b := []byte(s)
	slices.Reverse(b)
	return int(Unfixed(string(b)) ^ sign), api.OK
}

// Not turns all bits of a text.
func Not(s string) string {
	b := []byte(s)
	for i, c := range b {
		b[i] = ^c
	}
	return string(b)
}

// Sum is a sum of a text's bytes, and of their places.
func Sum(s string) uint32 {
	a, b := uint32(1), uint32(0)
	for i := range len(s) {
		a = (a + uint32(s[i])) % prime
		b = (b + a) % prime
	}
	return b<<16 | a
}

// lay lays the eight bytes of a number out, the lowest one first.
func lay(n uint64) [8]byte {
	var b [8]byte
	for i := range b {
		b[i] = byte(n >> (8 * i))
	}
	return b
}
